/- Texts of ours, laid one behind the other: SeL, SeM, SeN, SeO, SeP, SeQ, SeR, SeS, SeT, SeU, SeV, SeW, SeX, SeY. -/
import Derived.Test.YtfhcpehfmecpjaaPk3
import Derived.Conc.BesideWords
import Derived.KernelRfl
import Derived.Conc.CrowdComm
import Derived.Conc.Token
import Derived.Conc.TokenTrace
set_option linter.unusedVariables false
set_option linter.unusedSimpArgs false
/- Goroutine 0 takes ordinary steps beside goroutines that only leave. -/
namespace Go.Proofs.Ytfhcpehfmecpjaa
open Go.Conc
open Go.ConcN (sumTo upd sumTo_upd upd_ne upd_same)

/-- Nothing is shunned. -/
abbrev NoShun : Loc → Prop := fun _ => False
theorem low_some (e : Event) : ∃ B, (MemAct.ofEvent e).low B := by
  cases MemAct.ofEvent e with
  | access x =>
    obtain ⟨l, _, _⟩ := x
    cases l with
    | cell a => exact ⟨a.block + 1, Nat.lt_succ_self _⟩
    | obj r => exact ⟨r + 1, Nat.lt_succ_self _⟩
    | _ => exact ⟨0, trivial⟩
  | mark m => cases m <;> first | exact ⟨0, trivial⟩ | exact ⟨_ + 1, Nat.lt_succ_self _⟩
  | send c _ => exact ⟨c + 1, Nat.lt_succ_self _⟩
  | sendDone c _ => exact ⟨c + 1, Nat.lt_succ_self _⟩
  | recv c _ _ => exact ⟨c + 1, Nat.lt_succ_self _⟩
  | recvDone c _ => exact ⟨c + 1, Nat.lt_succ_self _⟩
  | close c => exact ⟨c + 1, Nat.lt_succ_self _⟩
  | recvClosed c => exact ⟨c + 1, Nat.lt_succ_self _⟩
  | _ => exact ⟨0, trivial⟩
theorem low_all (es : Array Event) (B : Nat) : ∃ B', B ≤ B' ∧ ∀ e ∈ es, (MemAct.ofEvent e).low B' := by
  obtain ⟨l⟩ := es
  induction l with
  | nil => exact ⟨B, Nat.le_refl _, fun e he => by simp at he⟩
  | cons e l ih =>
    obtain ⟨B1, h1, h2⟩ := ih
    obtain ⟨B2, h3⟩ := low_some e
    refine ⟨max B1 B2, by omega, fun x hx => ?_⟩
    rcases (by simpa using hx : x = e ∨ x ∈ l) with rfl | hx
    · exact MemAct.low_mono (by omega) h3
    · exact MemAct.low_mono (by omega) (h2 x (by simpa using hx))
/-- What is held of the trace outlives steps that touch nothing of goroutines other than 0, and quiet steps of goroutine 0's. -/
structure Keeps (Φ : Nat → Trace → Prop) : Prop where
  mute : ∀ {B t i fn pos es}, Φ B t → i ≠ 0 → (∀ e ∈ es, Event.mute e = true) → Φ B (t ++ MemOp.ofEvents i fn pos es)
  own : ∀ {B B' t fn pos es}, Φ B t → B ≤ B' → Quietly es → (∀ e ∈ es, (MemAct.ofEvent e).low B') → Φ B' (t ++ MemOp.ofEvents 0 fn pos es)
theorem keeps_past : Keeps (fun B t => Past NoShun B t) :=
  ⟨fun h hi hm => h.mute hi hm, fun h hB hq hl => (h.mono hB).own (fun e he => ⟨fun x _ hs => hs.elim, fun hx => (by cases (hq e he).1 _ hx), fun hx => (by cases (hq e he).1 _ hx), hl e he⟩)⟩
section
variable {P : Program} {B : Nat} {Φ : Nat → Trace → Prop}
/-- Goroutine 0's turn comes. -/
theorem turn0 (hΦ : Keeps Φ) : ∀ (M : Nat) (gs : Array Goroutine) (a : Goroutine) (w : World) (sl : Option (Nat × Nat)) (t : Trace) (q : Nat → Nat), sumTo gs.size q ≤ M → gs[0]? = some a → a.status = .running → Leavers P t gs q → Φ B t →
    ∃ (N : Nat) (gs' : Array Goroutine) (d d' : Nat) (sl' sl'' : Option (Nat × Nat)) (t' : Trace) (q' : Nat → Nat), runNT P N (crowd gs w sl) t = (.next (crowd gs' (w.at d) sl'), t') ∧ gs'.size = gs.size ∧ gs'[0]? = some a ∧ Leavers P t' gs' q' ∧ Φ B t' ∧
      stepT P (crowd gs' (w.at d) sl') = runT P (crowd gs' (w.at d') sl'') 0 := by
  intro M
  induction M with
  | zero =>
    intro gs a w sl t q hM h0 hrun hL hP
    have haw : ∀ g ∈ gs, awake g := by
      intro g hg
      obtain ⟨i, hi, rfl⟩ := Array.mem_iff_getElem.1 hg
      rcases Nat.eq_zero_or_pos i with rfl | hpos
      · have : gs[0] = a := by simpa [Array.getElem?_eq_getElem hi] using h0
        rw [this]; exact awake_of (.inl hrun)
      · exact awake_of ((hL.old i _ hpos (Array.getElem?_eq_getElem hi)).status.elim .inl fun x => .inr (.inr x))
    obtain ⟨i, g, d, sl', hi, hg, hst⟩ := crowd_pick (P := P) (w := w) (sl := sl) haw ⟨0, a, h0, hrun⟩
    rcases Nat.eq_zero_or_pos i with rfl | hpos
    · exact ⟨0, gs, w.drawn, d, sl, sl', t, q, rfl, rfl, h0, hL, hP, hst⟩
    · exfalso
      have hq := hL.old i g hpos hi
      have hlt : i < gs.size := (Array.getElem?_eq_some_iff.1 hi).1
      have hz : q i = 0 := by
        have := sumTo_upd q 0 id hlt
        simp at this
        have h2 : sumTo gs.size (fun a => q a) = sumTo gs.size q := rfl
        omega
      rw [hz] at hq
      rw [hq.1] at hg
      cases hg
  | succ M ih =>
    intro gs a w sl t q hM h0 hrun hL hP
    have haw : ∀ g ∈ gs, awake g := by
      intro g hg
      obtain ⟨i, hi, rfl⟩ := Array.mem_iff_getElem.1 hg
      rcases Nat.eq_zero_or_pos i with rfl | hpos
      · have : gs[0] = a := by simpa [Array.getElem?_eq_getElem hi] using h0
        rw [this]; exact awake_of (.inl hrun)
      · exact awake_of ((hL.old i _ hpos (Array.getElem?_eq_getElem hi)).status.elim .inl fun x => .inr (.inr x))
    obtain ⟨i, g, d, sl', hi, hg, hst⟩ := crowd_pick (P := P) (w := w) (sl := sl) haw ⟨0, a, h0, hrun⟩
    rcases Nat.eq_zero_or_pos i with rfl | hpos
    · exact ⟨0, gs, w.drawn, d, sl, sl', t, q, rfl, rfl, h0, hL, hP, hst⟩
    · have hq := hL.old i g hpos hi
      have hi0 : (i == 0) = false := by simp; omega
      have hlt : i < gs.size := (Array.getElem?_eq_some_iff.1 hi).1
      cases hqi : q i with
      | zero => rw [hqi] at hq; rw [hq.1] at hg; cases hg
      | succ k =>
        rw [hqi] at hq
        rcases hq with ⟨hf, _⟩ | ⟨_, g', es, hm, hstp, hq'⟩
        · rw [hf] at hg; cases hg
        have hrunT := runT_crowd_go (P := P) (sl := sl') (i := i) hi (by rw [hi0]; exact hstp (w.at d))
        have hsz : ((gs.map (woken P g g' (w.at d))).setIfInBounds i g').size = gs.size := by simp
        have hsum : sumTo gs.size (upd q i k) + (k + 1) = sumTo gs.size q + k := by
          have := sumTo_upd q k id hlt
          simpa [hqi] using this
        obtain ⟨N, gs', d1, d2, s1, s2, t', q', hr, hs', h0', hL', hP', hst'⟩ := ih ((gs.map (woken P g g' (w.at d))).setIfInBounds i g') a (w.at d) sl' (t ++ MemOp.ofEvents i g.frame.fn g.frame.place es) (upd q i k) (by rw [hsz]; omega)
          (by
            have hne : i ≠ 0 := by omega
            rw [Array.getElem?_setIfInBounds_ne hne, Array.getElem?_map, h0]
            simp [woken_run hrun]) hrun
          ⟨fun j x hj hx => by
            by_cases hji : i = j
            · subst hji
              rw [Array.getElem?_setIfInBounds_self_of_lt (by simpa using hlt)] at hx
              obtain rfl := Option.some.inj hx
              rw [upd_same, Deaf_own]
              exact hq'
            · rw [Array.getElem?_setIfInBounds_ne hji, Array.getElem?_map] at hx
              obtain ⟨y, hy, rfl⟩ := Option.map_eq_some_iff.1 hx
              have hqj := hL.old j y hj hy
              rw [woken_quitsD hqj, upd_ne q k (Ne.symm hji), Deaf_other t hji _ (fun op hop => by obtain ⟨e, _, rfl⟩ := Go.Conc.mem_ofEvents hop; rfl)]
              exact hqj, fun j hj => by
            rw [Deaf_other t (g' := i) (by simp at hj; omega) _ (fun op hop => by obtain ⟨e, _, rfl⟩ := Go.Conc.mem_ofEvents hop; rfl)]
            exact hL.above j (by simpa using hj)⟩
          (hΦ.mute hP (by omega) hm)
        exact ⟨N + 1, gs', d1, d2, s1, s2, t', q', by simp only [runNT, hst, hrunT]; exact hr, hs'.trans hsz, h0', hL', hP', hst'⟩
/-- One step of goroutine 0's beside leavers. -/
theorem idle1 (hΦ : Keeps Φ) {gs : Array Goroutine} {a : Goroutine} {w : World} {sl : Option (Nat × Nat)} {t : Trace} {q : Nat → Nat} (h0 : gs[0]? = some a) (hrun : a.status = .running) (hL : Leavers P t gs q) (hP : Φ B t)
    (hgo : ∀ d, ∃ a' w' es, stepG P true a (w.at d) = .go a' w' es ∧ Quietly es) :
    ∃ (N : Nat) (gs' : Array Goroutine) (a' : Goroutine) (d : Nat) (w' : World) (es : Array Event) (sl' : Option (Nat × Nat)) (t' : Trace) (q' : Nat → Nat) (B' : Nat),
      stepG P true a (w.at d) = .go a' w' es ∧ runNT P N (crowd gs w sl) t = (.next (crowd gs' w' sl'), t') ∧ gs'.size = gs.size ∧ gs'[0]? = some a' ∧ Leavers P t' gs' q' ∧ Φ B' t' := by
  obtain ⟨N, gs1, d1, d2, s1, s2, t1, q1, hr, hs1, h1, hL1, hP1, hst⟩ := turn0 (P := P) (B := B) hΦ _ gs a w sl t q (Nat.le_refl _) h0 hrun hL hP
  obtain ⟨a', w', es, hstep, hq⟩ := hgo d2
  obtain ⟨B', hB, hlow⟩ := low_all es B
  have hrunT := runT_crowd_go (P := P) (sl := s2) (i := 0) h1 (show stepG P (0 == 0) a (w.at d2) = _ from hstep)
  have hlt : 0 < gs1.size := (Array.getElem?_eq_some_iff.1 h1).1
  refine ⟨N + 1, (gs1.map (woken P a a' w')).setIfInBounds 0 a', a', d2, w', es, s2, t1 ++ MemOp.ofEvents 0 a.frame.fn a.frame.place es, q1, B', hstep, ?_, by simpa using hs1, by rw [Array.getElem?_setIfInBounds_self_of_lt (by simpa using hlt)], ⟨fun j x hj hx => ?_, fun j hj => ?_⟩, ?_⟩
  · rw [runNT_add, hr]
    simp only [runNT]
    have : stepT P (crowd gs1 (w.at d1) s1) = _ := hst.trans hrunT
    rw [this]
  · have hne : 0 ≠ j := by omega
    rw [Array.getElem?_setIfInBounds_ne hne, Array.getElem?_map] at hx
    obtain ⟨y, hy, rfl⟩ := Option.map_eq_some_iff.1 hx
    have hqy := hL1.old j y hj hy
    rw [woken_quitsD hqy, Deaf_other t1 (by omega) _ (fun op hop => by obtain ⟨e, _, rfl⟩ := Go.Conc.mem_ofEvents hop; rfl)]
    exact hqy
  · rw [Deaf_other t1 (g' := 0) (by simp at hj; omega) _ (fun op hop => by obtain ⟨e, _, rfl⟩ := Go.Conc.mem_ofEvents hop; rfl)]
    exact hL1.above j (by simpa using hj)
  · exact hΦ.own hP1 hB hq hlow
end
end Go.Proofs.Ytfhcpehfmecpjaa
/- The twin's run beside the program's: ordinary steps while the others only leave; where the lowest function is left. -/
namespace Go.Proofs.Ytfhcpehfmecpjaa
open Go.Conc

/-- From here the run ends well. -/
def Win (P : Program) (Post : Value → World → Prop) (gs : Array Goroutine) (w : World) (sl : Option (Nat × Nat)) (t : Trace) : Prop :=
  ∃ N last o w' t', runNT P (N + 1) (crowd gs w sl) t = (.ended o w', t') ∧ runN P N (crowd gs w sl) = .next last ∧ step P last = .ended o w' ∧ Good P Post last o w' t'
theorem Win.of {P : Program} {Post : Value → World → Prop} {gs gs' : Array Goroutine} {w w' : World} {sl sl' : Option (Nat × Nat)} {t t' : Trace} {K : Nat} (hr : runNT P K (crowd gs w sl) t = (.next (crowd gs' w' sl'), t')) (h : Win P Post gs' w' sl' t') : Win P Post gs w sl t := by
  obtain ⟨N, last, o, v, u, e1, e2, e3, e4⟩ := h
  refine ⟨K + N, last, o, v, u, ?_, ?_, e3, e4⟩
  · rw [Nat.add_assoc, runNT_add, hr]; exact e1
  · rw [runN_add, ← runNT_fst P K _ t, hr]; exact e2
section
variable {ok : Op → Bool} {S : List FuncId} {T : Tables} {f g : Array Func} {fr : Frame} {tops : List Frame} {w w₁ : World} {N₀ : Nat}
/-- The tape of the twin that goes on with the answers that the program will get. -/
def glue (w w₁ : World) (d : Nat) : Nat → Question → Nat := fun i => if i < w.drawn then w.tape i else w₁.tape (d + (i - w.drawn))
theorem glue_ext (w w₁ : World) (d : Nat) : Ext w (glue w w₁ d) := fun i hi => by unfold glue; rw [if_pos hi]
theorem glue_agree (w w₁ : World) (d k : Nat) : Agree k (Rt w (glue w w₁ d)) (w₁.at d) := by
  intro i _ q
  show w₁.tape (d + i) q = glue w w₁ d (w.drawn + i) q
  unfold glue
  rw [if_neg (by omega), Nat.add_sub_cancel_left]
/-- ONE ORDINARY STEP, BESIDE LEAVERS. 'J': what is held of both worlds' channels. -/
theorem idle_one {Φ : Nat → Trace → Prop} (hΦ : Keeps Φ) {Fin : Frame → World → Prop} {Post : Value → World → Prop} {τ₀ : Nat → Question → Nat} (hF : ∀ x ∈ S, Fine ok f g x) (hst : ∀ b, (⟨T, f⟩ : Program).stepOf b = none) (hst₁ : ∀ b, (⟨T, g⟩ : Program).stepOf b = none)
    {J : World → World → Prop} (hJ : ∀ w w₁ w' w₁', J w w₁ → Kc w w' → Kc w₁ w₁' → J w' w₁') {gs : Array Goroutine} {sl : Option (Nat × Nat)} {t : Trace} {q : Nat → Nat} {B : Nat} (hsp : ¬ Spec ⟨T, f⟩ S fr tops)
    (ho : Ord ok S fr) (ht : ∀ t ∈ tops, Ord ok S t ∧ t.mode = .run) (hM : Tm2 ⟨T, f⟩ Fin fr tops w) (h0 : gs[0]? = some (Gr fr tops)) (hL : Leavers ⟨T, g⟩ t gs q) (hP : Φ B t) (hS : Sim (some N₀) w w₁) (hτ : w₁.tape = τ₀) (hj : J w w₁)
    (k : ∀ (d : Nat) (fr' : Frame) (tops' : List Frame) (w' w₁' : World) (es : Array Event) (gs' : Array Goroutine) (sl' : Option (Nat × Nat)) (t' : Trace) (q' : Nat → Nat) (B' : Nat),
      stepG ⟨T, f⟩ true (Gr fr (tops ++ [sent ⟨T, f⟩])) (Rt w (glue w w₁ d)) = .go (Gr fr' (tops' ++ [sent ⟨T, f⟩])) w' es → Near ⟨T, f⟩ S fr tops fr' tops' → Kc w w' → Ord ok S fr' → (∀ t ∈ tops', Ord ok S t ∧ t.mode = .run) → Tm2 ⟨T, f⟩ Fin fr' tops' w' → gs'[0]? = some (Gr fr' tops') →
      gs'.size = gs.size → Leavers ⟨T, g⟩ t' gs' q' → Φ B' t' → Sim (some N₀) w' w₁' → w₁'.tape = τ₀ → J w' w₁' → Win ⟨T, g⟩ Post gs' w₁' sl' t') : Win ⟨T, g⟩ Post gs w₁ sl t := by
  have hFf : ∀ x ∈ S, Fine ok f f x := fun x hx => ⟨⟨rfl, (hF x hx).1.2⟩, (hF x hx).2⟩
  have key : ∀ d, Both (some N₀) ok S ⟨T, f⟩ ⟨T, g⟩ true true fr tops [sent ⟨T, f⟩] [] (Rt w (glue w w₁ d)) (w₁.at d) := fun d =>
    both_step ho ht hF hst hst₁ ⟨hS.os, hS.output, hS.size, hS.block⟩ hsp
  have two : ∀ d, ∃ fr' tops' w' w₁' es, stepG ⟨T, f⟩ true (Gr fr (tops ++ [sent ⟨T, f⟩])) (Rt w (glue w w₁ d)) = .go (Gr fr' (tops' ++ [sent ⟨T, f⟩])) w' es ∧ stepG ⟨T, g⟩ true (Gr fr tops) (w₁.at d) = .go (Gr fr' tops') w₁' es ∧ Near ⟨T, f⟩ S fr tops fr' tops' ∧ Kc (Rt w (glue w w₁ d)) w' ∧
      Ord ok S fr' ∧ (∀ t ∈ tops', Ord ok S t ∧ t.mode = .run) ∧ Sim (some N₀) w' w₁' ∧ w₁'.tape = τ₀ ∧ Quietly es ∧ J w' w₁' ∧ Tm2 ⟨T, f⟩ Fin fr' tops' w' := by
    intro d
    obtain ⟨fr3, tops3, w3, es3, e3, _, _, _, _, _, _, hM3, _⟩ := tm_step ho ht hFf hst hsp hM _ (glue_ext w w₁ d)
    rcases key d with ⟨fr', tops', w', k, es, e, nr, h1, h2, t1, d1, hq, kc, x⟩ | ⟨o, w', es, e⟩
    · obtain ⟨w₁', e', s', t', d', kc'⟩ := x (glue_agree w w₁ d k)
      have e4 := e3
      rw [e] at e4
      injection e4 with r1 r2 r3
      injection r1 with r4 r5
      have r6 := List.append_cancel_right r5
      subst r4 r6 r2
      refine ⟨fr', tops', w', w₁', es, e, ?_, nr, kc, h1, h2, s', t'.trans hτ, hq, hJ _ _ _ _ hj kc kc', hM3⟩
      simpa using e'
    · rw [e] at e3
      cases e3
  obtain ⟨K, gs', a', d, w₁'', es, sl', t', q', B', hstep, hr, hsz, h0', hL', hP'⟩ := idle1 (P := ⟨T, g⟩) hΦ (sl := sl) h0 rfl hL hP (fun d => by
    obtain ⟨fr', tops', w', w₁', es, _, e, _, _, _, _, _, _, hq, _⟩ := two d
    exact ⟨_, _, _, e, hq⟩)
  obtain ⟨fr', tops', w', w₁', es', e, e', nr, kc, h1, h2, s', t1, _, hj', hM'⟩ := two d
  rw [hstep] at e'
  injection e' with q1 q2 q3
  subst q1 q2 q3
  exact Win.of hr (k d fr' tops' w' w₁'' es gs' sl' t' q' B' e nr kc h1 h2 hM' h0' hsz hL' hP' s' t1 hj')
end
end Go.Proofs.Ytfhcpehfmecpjaa
/- Where the lowest function is left: the run's end; and its beginning. -/
namespace Go.Proofs.Ytfhcpehfmecpjaa
open Go.Conc

section
variable {ok : Op → Bool} {S : List FuncId} {T : Tables} {f g : Array Func} {fr : Frame} {tops : List Frame} {w w₁ : World} {N₀ : Nat}
/-- THE LOWEST FUNCTION IS LEFT: it returns, here and now. -/
theorem sent_end {Fin : Frame → World → Prop} (h : Ord ok S fr) (hK : ∃ fn, f[fr.fn]? = some fn) (hm : fr.mode ≠ .run) (hT : Tm2 ⟨T, f⟩ Fin fr [] w) : fr.mode = .returning ∧ ∀ τ, Ext w τ → Fin fr (Rt w τ) := by
  have one : ∀ τ, Ext w τ → fr.mode = .returning ∧ Fin fr (Rt w τ) := by
    intro τ hτ
    obtain ⟨n, fr', w', e, m, q⟩ := hT τ hτ
    cases n with
    | zero =>
      simp only [runN, lone, Stepped.next.injEq, Machine.mk.injEq, List.nil_append] at e
      have e1 := e.1
      have e2 : Gr fr [sent ⟨T, f⟩] = Gr fr' [sent ⟨T, f⟩] := by simpa using e.2.1
      injection e2 with e3
      subst e3 e1
      exact ⟨m.1, q⟩
    | succ n =>
      exfalso
      cases hmd : fr.mode with
      | run => exact hm hmd
      | panicking ch =>
        obtain ⟨fn, hfn⟩ := hK
        have hdf := h.defers
        have hs : stepG ⟨T, f⟩ true (Gr fr [sent ⟨T, f⟩]) (Rt w τ) = .go (Gr ((sent ⟨T, f⟩).raise ch) []) (Rt w τ) #[] := by
          obtain ⟨fn', tmps, todo, defers, mode, kind, round⟩ := fr
          simp only at hmd hdf hfn
          subst hmd hdf
          simp [stepG, unwind, Frame.catches, hfn]
        simp only [runN, List.nil_append] at e
        rw [lone_step hs] at e
        cases n with
        | zero =>
          simp only [runN, lone, Stepped.next.injEq, Machine.mk.injEq] at e
          have := e.2.1
          simp at this
        | succ n =>
          obtain ⟨o, w3, es, hs⟩ := sent_panic (T := T) (f := f) ch (Rt w τ)
          simp only [runN, lone_ended hs] at e
          cases e
      | returning => exact after_end (tops' := []) ⟨hmd, h.defers, h.kind, hK⟩ n (by simpa using e)
  have h0 := one w.tape (fun _ _ => rfl)
  exact ⟨h0.1, fun τ hτ => (one τ hτ).2⟩
/-- THE END: goroutine 0 of the program stands at the return of the lowest function. -/
theorem end_win {Post : Value → World → Prop} {gs : Array Goroutine} {sl : Option (Nat × Nat)} {t : Trace} {q : Nat → Nat} {B : Nat} {fn : Func} {v : Value} (h : Ord ok S fr) (hm : fr.mode = .returning) (hfn : g[fr.fn]? = some fn)
    (hres : results fn fr.tmps = pure v) (hi : (⟨T, g⟩ : Program).inits.idxOf? fr.fn = none) (h0 : gs[0]? = some (Gr fr [])) (hL : Leavers ⟨T, g⟩ t gs q) (hP : Past NoShun B t) (hpost : ∀ d, Post v (w₁.at d)) : Win ⟨T, g⟩ Post gs w₁ sl t := by
  refine beside_ends (D := fun _ _ _ => False) (n := 0) (fun _ _ _ h => h.elim) h0 hL hP ?_
  intro w₂ hw
  obtain ⟨d, rfl⟩ := hw
  refine ⟨rfl, v, #[], ?_, fun e he => by simp at he, hpost d⟩
  have hdf := h.defers
  have hkd := h.kind
  obtain ⟨fn', tmps, todo, defers, mode, kind, round⟩ := fr
  simp only at hm hdf hfn hkd hres hi
  subst hm hdf hkd
  simp only [stepG, unwind, hfn, doReturn, hres, hi]
  rfl
/-- THE BEGINNING: what is proved of the twin alone. -/
theorem tm_begin {L : FuncId} {args : Array Value} {w₀ : World} {Q : World → Value → World → Prop} (hC : ∀ τ, Calls ⟨T, f⟩ L args (Rt w₀ τ) fun e w' => ∃ v, e = .returned v ∧ Q (Rt w₀ τ) v w') (hd : w₀.drawn = 0) :
    Tm2 ⟨T, f⟩ (fun fr w' => ∃ τ v fn, fr.fn = L ∧ f[L]? = some fn ∧ (results fn fr.tmps).run ⟨T, f⟩ w' = .ok v w' ∧ Q (Rt w₀ τ) v w') (Frame.enter ⟨T, f⟩ L args .normal) [] w₀ := by
  intro τ _
  obtain ⟨e, w', fr', ⟨v, rfl, hq⟩, hs, hf, hm, hdf, hkd, fn, k1, k2⟩ := hC τ [sent ⟨T, f⟩]
  obtain ⟨n, hn⟩ := hs
  exact ⟨n, fr', w', hn, ⟨hm, hdf, hkd, fn, k1⟩, τ, v, fn, hf, by rw [← hf]; exact k1, k2, hq⟩
end
end Go.Proofs.Ytfhcpehfmecpjaa
/- A goroutine that sends values over a channel and closes it, touching no memory: what it will do; machines in which it runs beside goroutine 0 and goroutines that only leave. -/
namespace Go.Proofs.Ytfhcpehfmecpjaa
open Go.Conc

/-- WHAT THE SENDER WILL DO, in whatever world: these values in order, then close, then it only leaves. -/
inductive Sender (P : Program) (c : Nat) : List Value → Goroutine → Prop
  | send {v : Value} {vs : List Value} {b g₂ : Goroutine} {z : Value} (hr : b.status = .running) (hs : ∀ w, stepG P false b w = .comm g₂ #[scase c v z] true .send w #[]) (hn : Sender P c vs (Go.Conc.served g₂ undef)) : Sender P c (v :: vs) b
  | close {b b' : Goroutine} {n : Nat} (hr : b.status = .running) (hw : mayWake P b = true)
      (hs : ∀ (w : World) (cap s r : Nat), w.heap[c]? = some (.chan cap #[] false s r false) → stepG P false b w = .go b' (w.setChan c cap #[] true s r false) (closeEvents c)) (hq : QuitsD P n 0 b') : Sender P c [] b
  | step {vs : List Value} {b : Goroutine} (N : World → Goroutine × Nat) (hr : b.status = .running) (hs : ∀ w, stepG P false b w = .go (N w).1 (w.at (N w).2) #[]) (hn : ∀ w, Sender P c vs (N w).1) : Sender P c vs b
theorem Sender.running {P : Program} {c : Nat} {vs : List Value} {b : Goroutine} (h : Sender P c vs b) : b.status = .running := by
  cases h <;> assumption
/-- Whoever runs, has ended, or waits at channel c. -/
def Stb (c : Nat) (x : Goroutine) : Prop := x.status = .running ∨ x.status = .finished ∨ (∃ g z sh, x = parked g #[rcase c z] sh) ∨ ∃ g v z sh, x = parked g #[scase c v z] sh
theorem woken_stb {P : Program} {c : Nat} {x g g' : Goroutine} {w : World} {cap s r : Nat} {buf : Array Value} {tm : Bool} (h : Stb c x) (hc : w.heap[c]? = some (.chan cap buf false s r tm)) : woken P g g' w x = x := by
  rcases h with h | h | ⟨y, z, sh, rfl⟩ | ⟨y, v, z, sh, rfl⟩
  · unfold woken
    split
    · exact again_running _ (.inl h)
    · rfl
  · unfold woken
    split
    · exact again_running _ (.inr h)
    · rfl
  · exact woken_recv_open _ _ hc
  · exact woken_send_open _ _ hc
theorem map_woken {P : Program} {c : Nat} {gs : Array Goroutine} {g g' : Goroutine} {w : World} {cap s r : Nat} {buf : Array Value} {tm : Bool} (h : ∀ (i : Nat) (x : Goroutine), gs[i]? = some x → Stb c x) (hc : w.heap[c]? = some (.chan cap buf false s r tm)) : gs.map (woken P g g' w) = gs := by
  refine Array.ext_getElem? (fun i => ?_)
  rw [Array.getElem?_map]
  cases e : gs[i]? with
  | none => rfl
  | some x => simp [woken_stb (P := P) (g := g) (g' := g') (h i x e) hc]
/-- Operations that touch no memory and say nothing to the lookout. -/
def Mild2 (B : Nat) (op : MemOp) : Prop := op.act.touch? = none ∧ op.act ≠ .mark .disable ∧ op.act ≠ .mark .enable ∧ op.act.low B
theorem deaf_mild {B : Nat} {t : Trace} (g : Nat) (u : List MemOp) (h : ∀ op ∈ u, Mild2 B op) : Deaf (t ++ u.toArray) g = Deaf t g := by
  refine Deaf_quiet (fun op hop d => ?_)
  obtain ⟨_, h2, h3, _⟩ := h op (by simpa using hop)
  unfold deafStep
  split
  · rename_i e; exact absurd e h2
  · rename_i e; exact absurd e h3
  · rfl
theorem past_mild {B : Nat} : ∀ (u : List MemOp) (t : Trace), Past NoShun B t → (∀ op ∈ u, Mild2 B op) → Past NoShun B (t ++ u.toArray)
  | [], t, h, _ => by simpa using h
  | op :: u, t, h, hu => by
    have h1 := hu op (.head _)
    have hop : ∀ x ∈ (#[op] : Array MemOp), x = op := fun x hx => by simpa using hx
    have step : Past NoShun B (t ++ #[op]) := by
      by_cases h0 : op.g = 0
      · refine h.app0 (fun x hx => by rw [hop x hx]; exact h0) (fun x hx b hb _ => by rw [hop x hx, h1.1] at hb; cases hb) ?_ (fun x hx => by rw [hop x hx]; exact h1.2.2.2)
        exact deaf_mild (B := B) 0 [op] (fun x hx => by rw [List.mem_singleton.1 hx]; exact h1)
      · exact h.appMute h0 (fun x hx => by rw [hop x hx]) (fun x hx => by rw [hop x hx]; exact h1.1) (fun x hx => by rw [hop x hx]; exact h1.2.2.2)
    have := past_mild u (t ++ #[op]) step (fun x hx => hu x (.tail _ hx))
    simpa using this
/-- Nobody has written an object but rows of cells. -/
def NoW (t : Trace) : Prop := ∀ i a, touchAt t i = some a → ∀ r, a.loc = .obj r → a.write = false
theorem NoW.app {t u : Trace} (h : NoW t) (hu : ∀ op ∈ u, ∀ a, op.act.touch? = some a → ∀ r, a.loc = .obj r → a.write = false) : NoW (t ++ u) := by
  intro i a ha r hr
  obtain ⟨x, hx, hxa⟩ := touch_of ha
  rcases getElem?_append_cases hx with ⟨_, hx'⟩ | ⟨_, hxu⟩
  · exact h i a (by rw [touchAt_of hx']; exact hxa) r hr
  · exact hu x hxu a hxa r hr
theorem touch_quiet {e : Event} (hm : Mm e) {a : Touch} (ha : (MemAct.ofEvent e).touch? = some a) : a.loc = e.loc ∧ a.write = e.write := by
  exact ofEvent_touch (fun m hx => hm.1 m hx) ha
/-- What is held of the trace while all is known to goroutine 0. -/
def Pi (B : Nat) (t : Trace) : Prop := Past NoShun B t ∧ NoW t
theorem keeps_pi : Keeps Pi := by
  refine ⟨fun {B t i fn pos es} h hi hm => ⟨h.1.mute hi hm, h.2.app (fun op hop a ha => ?_)⟩, fun {B B' t fn pos es} h hB hq hl => ⟨keeps_past.own h.1 hB hq hl, h.2.app (fun op hop a ha r hr => ?_)⟩⟩
  · obtain ⟨e, he, rfl⟩ := Go.Conc.mem_ofEvents hop
    rw [touch_mute (hm e he)] at ha
    cases ha
  · obtain ⟨e, he, rfl⟩ := Go.Conc.mem_ofEvents hop
    obtain ⟨l1, l2⟩ := touch_quiet (hq e he) ha
    rw [l2]
    exact (hq e he).2 r (l1 ▸ hr)
theorem pi_mild {B : Nat} {t : Trace} (u : List MemOp) (h : Pi B t) (hu : ∀ op ∈ u, Mild2 B op) : Pi B (t ++ u.toArray) :=
  ⟨past_mild u t h.1 hu, h.2.app (fun op hop a ha => by rw [(hu op (by simpa using hop)).1] at ha; cases ha)⟩
end Go.Proofs.Ytfhcpehfmecpjaa
/- Goroutine 0 receives what a sender sends, beside goroutines that only leave: one place of goroutine 0's. -/
namespace Go.Proofs.Ytfhcpehfmecpjaa
open Go.Conc
open Go.ConcN (sumTo upd sumTo_upd upd_ne upd_same)

/-- THE MACHINE BUT FOR GOROUTINES 0 AND j: all others only leave. -/
structure Af (P : Program) (c j : Nat) (gs : Array Goroutine) (t : Trace) (q : Nat → Nat) (B : Nat) : Prop where
  old : ∀ (i : Nat) (x : Goroutine), 0 < i → i ≠ j → gs[i]? = some x → QuitsD P (q i) (Deaf t i) x
  above : ∀ i, gs.size ≤ i → Deaf t i = 0
  hear : Deaf t j = 0
  j0 : 0 < j
  past : Pi B t
  cB : c < B
/-- Where the sender stands: on its way, or waiting at its send. -/
def SC (P : Program) (c : Nat) (vs : List Value) (b : Goroutine) : Prop :=
  Sender P c vs b ∨ ∃ v vs' g₂ z, vs = v :: vs' ∧ b = parked g₂ #[scase c v z] .send ∧ Sender P c vs' (Go.Conc.served g₂ undef)
abbrev Open (c s r : Nat) (w : World) : Prop := w.heap[c]? = some (.chan 0 #[] false s r false)
section
variable {P : Program} {c j : Nat} {gs : Array Goroutine} {t : Trace} {q : Nat → Nat} {B : Nat} {a b : Goroutine}
theorem Af.stb (h : Af P c j gs t q B) (ha : gs[0]? = some a) (hb : gs[j]? = some b) (sa : Stb c a) (sb : Stb c b) : ∀ (i : Nat) (x : Goroutine), gs[i]? = some x → Stb c x := by
  intro i x hx
  rcases Nat.eq_zero_or_pos i with rfl | hp
  · rw [ha] at hx; cases hx; exact sa
  · by_cases e : i = j
    · subst e; rw [hb] at hx; cases hx; exact sb
    · exact (h.old i x hp e hx).status.elim .inl (fun y => .inr (.inl y))
theorem Stb.awake {x : Goroutine} (h : Stb c x) : awake x := by
  refine awake_of ?_
  rcases h with h | h | ⟨_, _, _, rfl⟩ | ⟨_, _, _, _, rfl⟩
  · exact .inl h
  · exact .inr (.inr h)
  · exact .inr (.inl rfl)
  · exact .inr (.inl rfl)
/-- What goroutine i lists, and whatever the others are. -/
theorem Af.put (h : Af P c j gs t q B) {i : Nat} {x : Goroutine} {u : List MemOp} {B' : Nat} (hi : i = 0 ∨ i = j) (hB : B ≤ B') (hp : Pi B' (t ++ u.toArray)) (hd : ∀ k, k ≠ 0 → Deaf (t ++ u.toArray) k = Deaf t k) : Af P c j (gs.setIfInBounds i x) (t ++ u.toArray) q B' := by
  refine ⟨fun k y hk hkj hy => ?_, fun k hk => ?_, ?_, h.j0, hp, Nat.lt_of_lt_of_le h.cB hB⟩
  · have hne : i ≠ k := by rcases hi with rfl | rfl <;> omega
    rw [Array.getElem?_setIfInBounds_ne hne] at hy
    rw [hd k (by omega)]
    exact h.old k y hk hkj hy
  · have hk' : gs.size ≤ k := by simpa using hk
    by_cases e : k = 0
    · subst e
      exact hp.1.hears
    · rw [hd k e]
      exact h.above k hk'
  · rw [hd j (by have := h.j0; omega)]
    exact h.hear
/-- A leaver slips. -/
theorem Af.slip (h : Af P c j gs t q B) {i : Nat} {x : Goroutine} {w : World} {sl : Option (Nat × Nat)} {s r : Nat} (hi : gs[i]? = some x) (h0 : i ≠ 0) (hj : i ≠ j) (hr : x.status = .running) (hst : ∀ (i : Nat) (x : Goroutine), gs[i]? = some x → Stb c x) (hc : Open c s r w) :
    ∃ gs' t' q', runT P (crowd gs w sl) i = (.next (crowd gs' w sl), t') ∧ gs'.size = gs.size ∧ gs'[0]? = gs[0]? ∧ gs'[j]? = gs[j]? ∧ Af P c j gs' (t ++ t') q' B ∧ sumTo gs'.size q' < sumTo gs.size q := by
  have hq := h.old i x (by omega) hj hi
  have hlt : i < gs.size := (Array.getElem?_eq_some_iff.1 hi).1
  have hi0 : (i == 0) = false := by simp [h0]
  cases hqi : q i with
  | zero => rw [hqi] at hq; rw [hq.1] at hr; cases hr
  | succ k =>
    rw [hqi] at hq
    rcases hq with ⟨hf, _⟩ | ⟨_, g', es, hm, hstp, hq'⟩
    · rw [hf] at hr; cases hr
    have hrunT := runT_crowd_go (P := P) (sl := sl) (i := i) hi (by rw [hi0]; exact hstp w)
    rw [map_woken hst hc] at hrunT
    have hsum : sumTo gs.size (upd q i k) + (k + 1) = sumTo gs.size q + k := by
      have := sumTo_upd q k id hlt
      simpa [hqi] using this
    have ho : ∀ op ∈ MemOp.ofEvents i x.frame.fn x.frame.place es, op.g = i := fun op hop => by obtain ⟨e, _, rfl⟩ := Go.Conc.mem_ofEvents hop; rfl
    refine ⟨_, _, upd q i k, hrunT, by simp, by rw [Array.getElem?_setIfInBounds_ne (by omega)], by rw [Array.getElem?_setIfInBounds_ne hj], ⟨fun k' y hk hkj hy => ?_, fun k' hk => ?_, ?_, h.j0, keeps_pi.mute h.past h0 hm, h.cB⟩, by simp; omega⟩
    · by_cases e : i = k'
      · subst e
        rw [Array.getElem?_setIfInBounds_self_of_lt hlt] at hy
        cases hy
        rw [upd_same, Deaf_own]
        exact hq'
      · rw [Array.getElem?_setIfInBounds_ne e] at hy
        rw [upd_ne q k (Ne.symm e), Deaf_other t e _ ho]
        exact h.old k' y hk hkj hy
    · rw [Deaf_other t (g' := i) (by simp at hk; omega) _ ho]
      exact h.above k' (by simpa using hk)
    · rw [Deaf_other t hj _ ho]
      exact h.hear
end
end Go.Proofs.Ytfhcpehfmecpjaa
/- Goroutine 0 receives what a sender sends, beside goroutines that only leave: one place of goroutine 0's, on every schedule. -/
namespace Go.Proofs.Ytfhcpehfmecpjaa
open Go.Conc
open Go.ConcN (sumTo upd sumTo_upd upd_ne upd_same)

theorem Win.step {P : Program} {Post : Value → World → Prop} {gs gs' : Array Goroutine} {w w' : World} {sl sl' : Option (Nat × Nat)} {t ops : Trace} (h : stepT P (crowd gs w sl) = (.next (crowd gs' w' sl'), ops)) (k : Win P Post gs' w' sl' (t ++ ops)) : Win P Post gs w sl t :=
  Win.of (K := 1) (by simp only [runNT, h]) k
section
variable {P : Program} {c j : Nat} {gs : Array Goroutine} {t : Trace} {q : Nat → Nat} {B : Nat} {a b : Goroutine} {vs : List Value} {Post : Value → World → Prop}
theorem Af.gen (h : Af P c j gs t q B) {gs' : Array Goroutine} {u : Trace} {B' : Nat} (hsz : gs'.size = gs.size) (hk : ∀ k, k ≠ 0 → k ≠ j → gs'[k]? = gs[k]?) (hB : B ≤ B') (hp : Pi B' (t ++ u)) (hd : ∀ k, k ≠ 0 → Deaf (t ++ u) k = Deaf t k) : Af P c j gs' (t ++ u) q B' := by
  refine ⟨fun k y h0 hkj hy => ?_, fun k hk' => ?_, ?_, h.j0, hp, Nat.lt_of_lt_of_le h.cB hB⟩
  · rw [hk k (by omega) hkj] at hy
    rw [hd k (by omega)]
    exact h.old k y h0 hkj hy
  · rw [hsz] at hk'
    by_cases e : k = 0
    · subst e
      exact hp.1.hears
    · rw [hd k e]
      exact h.above k hk'
  · rw [hd j (by have := h.j0; omega)]
    exact h.hear
/-- Goroutine 0's own quiet step. -/
theorem Af.own0 (h : Af P c j gs t q B) {a' : Goroutine} {fn : FuncId} {pos : String} {es : Array Event} (hq : Quietly es) : ∃ B', Af P c j (gs.setIfInBounds 0 a') (t ++ MemOp.ofEvents 0 fn pos es) q B' := by
  obtain ⟨B', hB, hlow⟩ := low_all es B
  exact ⟨B', h.gen (by simp) (fun k hk _ => by rw [Array.getElem?_setIfInBounds_ne (by omega)]) hB (keeps_pi.own h.past hB hq hlow) (fun k hk => Deaf_other t (g' := 0) (by omega) _ (fun op hop => by obtain ⟨e, _, rfl⟩ := Go.Conc.mem_ofEvents hop; rfl))⟩
/-- What waits at channel c but one. -/
theorem part_nil (h : Af P c j gs t q B) {i : Nat} {send : Bool} (h0 : ∀ x, i ≠ 0 → gs[0]? = some x → offersAt x c send = []) (hj : ∀ x, i ≠ j → gs[j]? = some x → offersAt x c send = []) : partners (gs.setIfInBounds i ph) c send = [] := by
  refine partners_nil (fun k x hx => ?_)
  by_cases e : i = k
  · subst e
    by_cases hl : i < gs.size
    · rw [Array.getElem?_setIfInBounds_self_of_lt hl] at hx
      cases hx
      rfl
    · rw [Array.getElem?_eq_none (by simpa using hl)] at hx
      cases hx
  · rw [Array.getElem?_setIfInBounds_ne e] at hx
    rcases Nat.eq_zero_or_pos k with rfl | hp
    · exact h0 x e hx
    · by_cases e' : k = j
      · subst e'; exact hj x e hx
      · exact offersAt_of_not_blocked (by rcases (h.old k x hp e' hx).status with y | y <;> rw [y] <;> simp) _ _
theorem part_one (h : Af P c j gs t q B) {i k : Nat} {x : Goroutine} {send : Bool} (hik : i ≠ k) (hk : k = 0 ∨ k = j) (hi : i = 0 ∨ i = j) (hx : gs[k]? = some x) (ho : offersAt x c send = [0]) : partners (gs.setIfInBounds i ph) c send = [(k, 0)] := by
  have := h.j0
  rw [partners_one (j := k) (g := x) (by rw [Array.getElem?_setIfInBounds_ne hik]; exact hx) (fun m y hm hy => ?_), ho]
  · rfl
  · by_cases e : i = m
    · subst e
      by_cases hl : i < gs.size
      · rw [Array.getElem?_setIfInBounds_self_of_lt hl] at hy
        cases hy
        rfl
      · rw [Array.getElem?_eq_none (by simpa using hl)] at hy
        cases hy
    · rw [Array.getElem?_setIfInBounds_ne e] at hy
      have hm0 : m ≠ 0 := by rcases hk with rfl | rfl <;> rcases hi with rfl | rfl <;> omega
      have hmj : m ≠ j := by rcases hk with rfl | rfl <;> rcases hi with rfl | rfl <;> omega
      exact offersAt_of_not_blocked (by rcases (h.old m y (by omega) hmj hy).status with z | z <;> rw [z] <;> simp) _ _
/-- The four words of a meeting. -/
theorem mild4 {f1 f2 f3 f4 : FuncId} {p1 p2 p3 p4 : String} {x y s r cap : Nat} (hc : c < B) :
    ∀ op ∈ ([{ g := x, fn := f1, pos := p1, act := .send c s }, { g := y, fn := f2, pos := p2, act := .recv c r cap }, { g := x, fn := f3, pos := p3, act := .sendDone c s }, { g := y, fn := f4, pos := p4, act := .recvDone c r }] : List MemOp), Mild2 B op := by
  intro op hop
  simp only [List.mem_cons, List.mem_singleton, List.not_mem_nil, or_false] at hop
  rcases hop with rfl | rfl | rfl | rfl <;> exact ⟨rfl, by simp, by simp, hc⟩
theorem Af.mild (h : Af P c j gs t q B) {gs' : Array Goroutine} {u : List MemOp} (hsz : gs'.size = gs.size) (hk : ∀ k, k ≠ 0 → k ≠ j → gs'[k]? = gs[k]?) (hu : ∀ op ∈ u, Mild2 B op) : Af P c j gs' (t ++ u.toArray) q B :=
  h.gen hsz hk (Nat.le_refl _) (pi_mild u h.past hu) (fun k _ => deaf_mild k u hu)
/-- From here, with whatever sender that still has these to send, the run ends well. -/
def Kid (P : Program) (Post : Value → World → Prop) (c j : Nat) (a : Goroutine) (vs : List Value) (w : World) : Prop :=
  ∀ (gs : Array Goroutine) (t : Trace) (q : Nat → Nat) (B : Nat) (sl : Option (Nat × Nat)) (b : Goroutine), Af P c j gs t q B → gs[0]? = some a → gs[j]? = some b → SC P c vs b → Win P Post gs w sl t
theorem mute_ops {i : Nat} {fn : FuncId} {pos : String} {es : Array Event} (h : ∀ e ∈ es, e.mute = true) : ∀ op ∈ (MemOp.ofEvents i fn pos es).toList, op.act.touch? = none := by
  intro op hop
  obtain ⟨e, he, rfl⟩ := Go.Conc.mem_ofEvents (Array.mem_toList_iff.1 hop)
  exact touch_mute (h e he)
end
end Go.Proofs.Ytfhcpehfmecpjaa
/- Goroutine 0 receives what a sender sends: one place of goroutine 0's: whoever is picked, the run goes on well. -/
namespace Go.Proofs.Ytfhcpehfmecpjaa
open Go.Conc
open Go.ConcN (sumTo upd sumTo_upd upd_ne upd_same)

section
variable {P : Program} {c j : Nat} {a : Goroutine} {vs : List Value} {Post : Value → World → Prop} {Wk : World → Prop}
/-- From here, where goroutine j has just closed the channel and only leaves, the run ends well. -/
def Shutw (P : Program) (Post : Value → World → Prop) (c j : Nat) (x : Goroutine) (w : World) : Prop :=
  ∀ (gs : Array Goroutine) (t : Trace) (q : Nat → Nat) (B n : Nat) (sl : Option (Nat × Nat)) (b' : Goroutine) (fn : FuncId) (pos : String), Af P c j gs t q B → gs[0]? = some x → gs[j]? = some b' → QuitsD P n 0 b' → Win P Post gs w sl (t ++ MemOp.ofEvents j fn pos (closeEvents c))
/-- What goroutine 0 does at this place: a step of its own, or it stands at the receive. -/
def Does (P : Program) (Post : Value → World → Prop) (c j : Nat) (a : Goroutine) (vs : List Value) (Wk : World → Prop) : Prop :=
  (∀ (w : World) (s r : Nat), Wk w → Open c s r w → ∃ a' w' es, stepG P true a w = .go a' w' es ∧ Quietly es ∧ Open c s r w' ∧ Kid P Post c j a' vs w') ∨
  (∃ z, (∀ w, stepG P true a w = .comm a #[rcase c z] true (.recv true) w #[]) ∧
    (∀ v vs', vs = v :: vs' → ∀ (w : World) (s r : Nat), Wk w → Open c s r w → Kid P Post c j (Go.Conc.served a (.tuple #[v, .bool true])) vs' (w.setChan c 0 #[] false (s + 1) (r + 1) false)) ∧
    (vs = [] → ∀ (w : World) (s r : Nat), Wk w → Open c s r w → Shutw P Post c j { parked a #[rcase c z] (.recv true) with status := .running } (w.setChan c 0 #[] true s r false)))
theorem run_at (w : World) (d : Nat) {s r : Nat} (h : Open c s r w) : Open c s r (w.at d) := h
/-- THE SENDER WAITS; goroutine 0 runs. -/
theorem spark (ha : a.status = .running) (hWd : ∀ w d, Wk w → Wk (w.at d)) (hD : Does P Post c j a vs Wk) {v z₂ : Value} {vs' : List Value} {g₂ : Goroutine} (hv : vs = v :: vs') (hn : Sender P c vs' (Go.Conc.served g₂ undef)) :
    ∀ (M : Nat) (gs : Array Goroutine) (w : World) (s r : Nat) (t : Trace) (q : Nat → Nat) (B : Nat) (sl : Option (Nat × Nat)), sumTo gs.size q = M → Af P c j gs t q B → gs[0]? = some a → gs[j]? = some (parked g₂ #[scase c v z₂] .send) → Wk w → Open c s r w → Win P Post gs w sl t := by
  intro M
  induction M using Nat.strongRecOn with
  | _ M ih =>
    intro gs w s r t q B sl hM hA h0 hj hW hc
    have hjp := hA.j0
    have hstb := hA.stb h0 hj (.inl ha) (.inr (.inr (.inr ⟨_, _, _, _, rfl⟩)))
    have haw : ∀ x ∈ gs, awake x := fun x hx => by
      obtain ⟨i, hi, rfl⟩ := Array.mem_iff_getElem.1 hx
      exact (hstb i _ (Array.getElem?_eq_getElem hi)).awake
    obtain ⟨i, x, d, sl', hi, hx, hst⟩ := crowd_pick (P := P) (w := w) (sl := sl) haw ⟨0, a, h0, ha⟩
    have hlt : 0 < gs.size := (Array.getElem?_eq_some_iff.1 h0).1
    have hjl : j < gs.size := (Array.getElem?_eq_some_iff.1 hj).1
    by_cases e0 : i = 0
    · subst e0
      obtain rfl : x = a := by rw [h0] at hi; exact (Option.some.inj hi).symm
      rcases hD with hord | ⟨z, hcm, hmeet, _⟩
      · obtain ⟨a', w', es, e, hq, hc', hk⟩ := hord (w.at d) s r (hWd w d hW) hc
        have hrunT := runT_crowd_go (P := P) (sl := sl') (i := 0) hi (show stepG P (0 == 0) x (w.at d) = _ from e)
        rw [map_woken hstb hc'] at hrunT
        obtain ⟨B', hA'⟩ := hA.own0 (a' := a') (fn := x.frame.fn) (pos := x.frame.place) hq
        exact Win.step (hst.trans hrunT) (hk _ _ _ _ _ _ hA' (by rw [Array.getElem?_setIfInBounds_self_of_lt hlt]) (by rw [Array.getElem?_setIfInBounds_ne (by omega)]; exact hj) (.inr ⟨v, vs', g₂, z₂, hv, rfl, hn⟩))
      · have hp := part_one hA (i := 0) (k := j) (send := true) (by omega) (.inr rfl) (.inl rfl) hj (by rw [offersAt_parked_send]; simp)
        have hrunT := crowd_recv_meets (P := P) (sl := sl') (i := 0) (j := j) hi (show stepG P (0 == 0) x (w.at d) = _ from hcm (w.at d)) hc (by omega) hj hp
        rw [finishComm_send, finishComm_recv] at hrunT
        refine Win.step (hst.trans hrunT) ?_
        have hu := mild4 (c := c) (B := B) (x := j) (y := 0) (s := s) (r := r) (cap := 0) (f1 := g₂.frame.fn) (f2 := x.frame.fn) (f3 := g₂.frame.fn) (f4 := x.frame.fn) (p1 := g₂.frame.place) (p2 := x.frame.place) (p3 := g₂.frame.place) (p4 := x.frame.place) hA.cB
        have hA' := hA.mild (gs' := (gs.setIfInBounds j (Go.Conc.served g₂ undef)).setIfInBounds 0 (Go.Conc.served x (recvd true v true))) (by simp) (fun k hk hkj => by rw [Array.getElem?_setIfInBounds_ne (by omega), Array.getElem?_setIfInBounds_ne (by omega)]) hu
        have := hmeet v vs' hv (w.at d) s r (hWd w d hW) hc _ _ _ _ sl' _ hA' (by rw [Array.getElem?_setIfInBounds_self_of_lt (by simpa using hlt)]; rfl) (by rw [Array.getElem?_setIfInBounds_ne (by omega), Array.getElem?_setIfInBounds_self_of_lt hjl]) (.inl hn)
        simpa [MemOp.ofEvents] using this
    · by_cases ej : i = j
      · subst ej
        rw [hj] at hi
        cases hi
        cases hx
      · obtain ⟨gs', t', q', hr, hsz, h0', hj', hA', hlt'⟩ := hA.slip (sl := sl') (w := w.at d) hi e0 ej hx hstb hc
        exact Win.step (hst.trans hr) (ih _ (by omega) gs' (w.at d) s r _ q' B sl' rfl hA' (h0'.trans h0) (hj'.trans hj) (hWd w d hW) hc)
/-- GOROUTINE 0 WAITS at the receive; the sender is on its way. -/
theorem rpark {z : Value} (ha : a.status = .running) (hWd : ∀ w d, Wk w → Wk (w.at d)) (hcm : ∀ w, stepG P true a w = .comm a #[rcase c z] true (.recv true) w #[])
    (hmeet : ∀ v vs', vs = v :: vs' → ∀ (w : World) (s r : Nat), Wk w → Open c s r w → Kid P Post c j (Go.Conc.served a (.tuple #[v, .bool true])) vs' (w.setChan c 0 #[] false (s + 1) (r + 1) false))
    (hsh : vs = [] → ∀ (w : World) (s r : Nat), Wk w → Open c s r w → Shutw P Post c j { parked a #[rcase c z] (.recv true) with status := .running } (w.setChan c 0 #[] true s r false)) {b : Goroutine} (hS : Sender P c vs b) :
    ∀ (M : Nat) (gs : Array Goroutine) (w : World) (s r : Nat) (t : Trace) (q : Nat → Nat) (B : Nat) (sl : Option (Nat × Nat)), sumTo gs.size q = M → Af P c j gs t q B → gs[0]? = some (parked a #[rcase c z] (.recv true)) → gs[j]? = some b → Wk w → Open c s r w → Win P Post gs w sl t := by
  induction hS with
  | @send v vs' b g₂ z₂ hr hs hn _ =>
    intro M
    induction M using Nat.strongRecOn with
    | _ M ih =>
      intro gs w s r t q B sl hM hA h0 hj hW hc
      have hjp := hA.j0
      have hstb := hA.stb h0 hj (.inr (.inr (.inl ⟨_, _, _, rfl⟩))) (.inl hr)
      have haw : ∀ x ∈ gs, awake x := fun x hx => by
        obtain ⟨i, hi, rfl⟩ := Array.mem_iff_getElem.1 hx
        exact (hstb i _ (Array.getElem?_eq_getElem hi)).awake
      obtain ⟨i, x, d, sl', hi, hx, hst⟩ := crowd_pick (P := P) (w := w) (sl := sl) haw ⟨j, b, hj, hr⟩
      have hlt : 0 < gs.size := (Array.getElem?_eq_some_iff.1 h0).1
      have hjl : j < gs.size := (Array.getElem?_eq_some_iff.1 hj).1
      by_cases e0 : i = 0
      · subst e0
        rw [h0] at hi
        cases hi
        cases hx
      · by_cases ej : i = j
        · subst ej
          obtain rfl : x = b := by rw [hj] at hi; exact (Option.some.inj hi).symm
          have hi0 : (i == 0) = false := by simp [e0]
          have hp := part_one hA (i := i) (k := 0) (send := false) e0 (.inl rfl) (.inr rfl) h0 (by rw [offersAt_parked_recv]; simp)
          have hrunT := crowd_send_meets (P := P) (sl := sl') (i := i) (j := 0) hi (by rw [hi0]; exact hs (w.at d)) (show (w.at d).heap[c]? = _ from hc) (by omega) h0 hp
          rw [finishComm_send, finishComm_recv] at hrunT
          refine Win.step (hst.trans hrunT) ?_
          have hu := mild4 (c := c) (B := B) (x := i) (y := 0) (s := s) (r := r) (cap := 0) (f1 := g₂.frame.fn) (f2 := a.frame.fn) (f3 := g₂.frame.fn) (f4 := a.frame.fn) (p1 := g₂.frame.place) (p2 := a.frame.place) (p3 := g₂.frame.place) (p4 := a.frame.place) hA.cB
          have hA' := hA.mild (gs' := (gs.setIfInBounds 0 (Go.Conc.served a (recvd true v true))).setIfInBounds i (Go.Conc.served g₂ undef)) (by simp) (fun k hk hkj => by rw [Array.getElem?_setIfInBounds_ne (by omega), Array.getElem?_setIfInBounds_ne (by omega)]) hu
          have := hmeet v vs' rfl (w.at d) s r (hWd w d hW) hc _ _ _ _ sl' _ hA' (by rw [Array.getElem?_setIfInBounds_ne e0, Array.getElem?_setIfInBounds_self_of_lt hlt]; rfl) (by rw [Array.getElem?_setIfInBounds_self_of_lt (by simpa using hjl)]) (.inl hn)
          simpa [MemOp.ofEvents] using this
        · obtain ⟨gs', t', q', hr', hsz, h0', hj', hA', hlt'⟩ := hA.slip (sl := sl') (w := w.at d) hi e0 ej hx hstb hc
          exact Win.step (hst.trans hr') (ih _ (by omega) gs' (w.at d) s r _ q' B sl' rfl hA' (h0'.trans h0) (hj'.trans hj) (hWd w d hW) hc)
  | @close b b' n hr hwk hs hq =>
    intro M
    induction M using Nat.strongRecOn with
    | _ M ih =>
      intro gs w s r t q B sl hM hA h0 hj hW hc
      have hjp := hA.j0
      have hstb := hA.stb h0 hj (.inr (.inr (.inl ⟨_, _, _, rfl⟩))) (.inl hr)
      have haw : ∀ x ∈ gs, awake x := fun x hx => by
        obtain ⟨i, hi, rfl⟩ := Array.mem_iff_getElem.1 hx
        exact (hstb i _ (Array.getElem?_eq_getElem hi)).awake
      obtain ⟨i, x, d, sl', hi, hx, hst⟩ := crowd_pick (P := P) (w := w) (sl := sl) haw ⟨j, b, hj, hr⟩
      have hlt : 0 < gs.size := (Array.getElem?_eq_some_iff.1 h0).1
      have hjl : j < gs.size := (Array.getElem?_eq_some_iff.1 hj).1
      by_cases e0 : i = 0
      · subst e0
        rw [h0] at hi
        cases hi
        cases hx
      · by_cases ej : i = j
        · subst ej
          obtain rfl : x = b := by rw [hj] at hi; exact (Option.some.inj hi).symm
          have hi0 : (i == 0) = false := by simp [e0]
          have hrunT := runT_crowd_go (P := P) (sl := sl') (i := i) hi (by rw [hi0]; exact hs (w.at d) 0 s r hc)
          refine Win.step (hst.trans hrunT) ?_
          have hc2 : ((w.at d).setChan c 0 #[] true s r false).heap[c]? = some (.chan 0 #[] true s r false) := by
            have hcl : c < w.heap.size := (Array.getElem?_eq_some_iff.1 hc).1
            show (w.heap.setIfInBounds c _)[c]? = _
            rw [Array.getElem?_setIfInBounds_self_of_lt hcl]
          have hb' : ∀ o, woken P x b' ((w.at d).setChan c 0 #[] true s r false) o = o.again ((w.at d).setChan c 0 #[] true s r false) := by
            intro o
            unfold woken
            rcases hq.status with h | h <;> simp [hwk, h]
          have hA' : Af P c i ((gs.map (woken P x b' ((w.at d).setChan c 0 #[] true s r false))).setIfInBounds i b') t q B := by
            refine ⟨fun k y hk hkj hy => ?_, fun k hk => hA.above k (by simpa using hk), hA.hear, hA.j0, hA.past, hA.cB⟩
            rw [Array.getElem?_setIfInBounds_ne (by omega), Array.getElem?_map] at hy
            obtain ⟨y', hy', rfl⟩ := Option.map_eq_some_iff.1 hy
            have hqy := hA.old k y' hk hkj hy'
            rw [woken_quitsD hqy]
            exact hqy
          refine hsh rfl (w.at d) s r (hWd w d hW) hc _ _ _ _ n sl' b' _ _ hA' ?_ ?_ hq
          · rw [Array.getElem?_setIfInBounds_ne e0, Array.getElem?_map, h0, Option.map_some, hb', again_recv_closed hc2]
          · rw [Array.getElem?_setIfInBounds_self_of_lt (by simpa using hjl)]
        · obtain ⟨gs', t', q', hr', hsz, h0', hj', hA', hlt'⟩ := hA.slip (sl := sl') (w := w.at d) hi e0 ej hx hstb hc
          exact Win.step (hst.trans hr') (ih _ (by omega) gs' (w.at d) s r _ q' B sl' rfl hA' (h0'.trans h0) (hj'.trans hj) (hWd w d hW) hc)
  | @step vs b N hr hs hn ihS =>
    intro M
    induction M using Nat.strongRecOn with
    | _ M ih =>
      intro gs w s r t q B sl hM hA h0 hj hW hc
      have hjp := hA.j0
      have hstb := hA.stb h0 hj (.inr (.inr (.inl ⟨_, _, _, rfl⟩))) (.inl hr)
      have haw : ∀ x ∈ gs, awake x := fun x hx => by
        obtain ⟨i, hi, rfl⟩ := Array.mem_iff_getElem.1 hx
        exact (hstb i _ (Array.getElem?_eq_getElem hi)).awake
      obtain ⟨i, x, d, sl', hi, hx, hst⟩ := crowd_pick (P := P) (w := w) (sl := sl) haw ⟨j, b, hj, hr⟩
      have hjl : j < gs.size := (Array.getElem?_eq_some_iff.1 hj).1
      by_cases e0 : i = 0
      · subst e0
        rw [h0] at hi
        cases hi
        cases hx
      · by_cases ej : i = j
        · subst ej
          obtain rfl : x = b := by rw [hj] at hi; exact (Option.some.inj hi).symm
          have hi0 : (i == 0) = false := by simp [e0]
          have hrunT := runT_crowd_go (P := P) (sl := sl') (i := i) hi (by rw [hi0]; exact hs (w.at d))
          rw [map_woken hstb (show Open c s r ((w.at d).at (N (w.at d)).2) from hc)] at hrunT
          have hA' := hA.gen (gs' := gs.setIfInBounds i (N (w.at d)).1) (u := #[]) (by simp) (fun k hk hkj => by rw [Array.getElem?_setIfInBounds_ne (by omega)]) (Nat.le_refl _) (by simpa using hA.past) (fun k _ => by simp)
          refine Win.step (hst.trans hrunT) ?_
          have := ihS (w.at d) hmeet hsh _ (gs.setIfInBounds i (N (w.at d)).1) ((w.at d).at (N (w.at d)).2) s r (t ++ #[]) q B sl' rfl hA' (by rw [Array.getElem?_setIfInBounds_ne e0]; exact h0) (by rw [Array.getElem?_setIfInBounds_self_of_lt hjl]) (hWd (w.at d) _ (hWd w d hW)) hc
          simpa [MemOp.ofEvents] using this
        · obtain ⟨gs', t', q', hr', hsz, h0', hj', hA', hlt'⟩ := hA.slip (sl := sl') (w := w.at d) hi e0 ej hx hstb hc
          exact Win.step (hst.trans hr') (ih _ (by omega) gs' (w.at d) s r _ q' B sl' rfl hA' (h0'.trans h0) (hj'.trans hj) (hWd w d hW) hc)
end
end Go.Proofs.Ytfhcpehfmecpjaa
/- Goroutine 0 receives what a sender sends: goroutine 0 and the sender both run. -/
namespace Go.Proofs.Ytfhcpehfmecpjaa
open Go.Conc
open Go.ConcN (sumTo upd sumTo_upd upd_ne upd_same)

section
variable {P : Program} {c j : Nat} {a : Goroutine} {vs : List Value} {Post : Value → World → Prop} {Wk : World → Prop}
/-- BOTH RUN. -/
theorem rrun (ha : a.status = .running) (hWd : ∀ w d, Wk w → Wk (w.at d)) (hD : Does P Post c j a vs Wk) (hclose : vs = [] → ∀ (w : World) (s r : Nat), Wk w → Open c s r w → Shutw P Post c j a (w.setChan c 0 #[] true s r false)) {b : Goroutine} (hS : Sender P c vs b) :
    ∀ (M : Nat) (gs : Array Goroutine) (w : World) (s r : Nat) (t : Trace) (q : Nat → Nat) (B : Nat) (sl : Option (Nat × Nat)), sumTo gs.size q = M → Af P c j gs t q B → gs[0]? = some a → gs[j]? = some b → Wk w → Open c s r w → Win P Post gs w sl t := by
  induction hS with
  | @send v vs' b g₂ z₂ hr hs hn _ =>
    intro M
    induction M using Nat.strongRecOn with
    | _ M ih =>
      intro gs w s r t q B sl hM hA h0 hj hW hc
      have hjp := hA.j0
      have hstb := hA.stb h0 hj (.inl ha) (.inl hr)
      have haw : ∀ x ∈ gs, awake x := fun x hx => by
        obtain ⟨i, hi, rfl⟩ := Array.mem_iff_getElem.1 hx
        exact (hstb i _ (Array.getElem?_eq_getElem hi)).awake
      obtain ⟨i, x, d, sl', hi, hx, hst⟩ := crowd_pick (P := P) (w := w) (sl := sl) haw ⟨0, a, h0, ha⟩
      have hlt : 0 < gs.size := (Array.getElem?_eq_some_iff.1 h0).1
      have hjl : j < gs.size := (Array.getElem?_eq_some_iff.1 hj).1
      by_cases e0 : i = 0
      · subst e0
        obtain rfl : x = a := by rw [h0] at hi; exact (Option.some.inj hi).symm
        rcases hD with hord | ⟨z, hcm, hmeet, hsh⟩
        · obtain ⟨a', w', es, e, hq, hc', hk⟩ := hord (w.at d) s r (hWd w d hW) hc
          have hrunT := runT_crowd_go (P := P) (sl := sl') (i := 0) hi (show stepG P (0 == 0) x (w.at d) = _ from e)
          rw [map_woken hstb hc'] at hrunT
          obtain ⟨B', hA'⟩ := hA.own0 (a' := a') (fn := x.frame.fn) (pos := x.frame.place) hq
          exact Win.step (hst.trans hrunT) (hk _ _ _ _ _ _ hA' (by rw [Array.getElem?_setIfInBounds_self_of_lt hlt]) (by rw [Array.getElem?_setIfInBounds_ne (by omega)]; exact hj) (.inl (Sender.send hr hs hn)))
        · have hp := part_nil hA (i := 0) (send := true) (fun y h => absurd rfl h) (fun y _ hy => by rw [hj] at hy; cases hy; exact offersAt_of_not_blocked (by rw [hr]; simp) _ _)
          have hrunT := crowd_waits (P := P) (sl := sl') (i := 0) hi (show stepG P (0 == 0) x (w.at d) = _ from hcm (w.at d)) (fun cc hcc => by
            rw [show cc = rcase c z by simpa using hcc]
            exact ways_recv_none (show (w.at d).heap[c]? = _ from hc) hp)
          have hA' := hA.gen (gs' := gs.setIfInBounds 0 (parked x #[rcase c z] (.recv true))) (u := #[]) (by simp) (fun k hk hkj => by rw [Array.getElem?_setIfInBounds_ne (by omega)]) (Nat.le_refl _) (by simpa using hA.past) (fun k _ => by simp)
          refine Win.step (hst.trans hrunT) ?_
          have := rpark ha hWd hcm hmeet hsh (Sender.send hr hs hn) _ (gs.setIfInBounds 0 (parked x #[rcase c z] (.recv true))) (w.at d) s r (t ++ #[]) q B sl' rfl hA' (by rw [Array.getElem?_setIfInBounds_self_of_lt hlt]) (by rw [Array.getElem?_setIfInBounds_ne (by omega)]; exact hj) (hWd w d hW) hc
          simpa [MemOp.ofEvents] using this
      · by_cases ej : i = j
        · subst ej
          obtain rfl : x = b := by rw [hj] at hi; exact (Option.some.inj hi).symm
          have hi0 : (i == 0) = false := by simp [e0]
          have hp := part_nil hA (i := i) (send := false) (fun y _ hy => by rw [h0] at hy; cases hy; exact offersAt_of_not_blocked (by rw [ha]; simp) _ _) (fun y h => absurd rfl h)
          have hrunT := crowd_waits (P := P) (sl := sl') (i := i) hi (by rw [hi0]; exact hs (w.at d)) (fun cc hcc => by
            rw [show cc = scase c v z₂ by simpa using hcc]
            exact ways_send_none (show (w.at d).heap[c]? = _ from hc) (Nat.le_refl _) hp)
          have hA' := hA.gen (gs' := gs.setIfInBounds i (parked g₂ #[scase c v z₂] .send)) (u := #[]) (by simp) (fun k hk hkj => by rw [Array.getElem?_setIfInBounds_ne (by omega)]) (Nat.le_refl _) (by simpa using hA.past) (fun k _ => by simp)
          refine Win.step (hst.trans hrunT) ?_
          have := spark ha hWd hD rfl hn _ (gs.setIfInBounds i (parked g₂ #[scase c v z₂] .send)) (w.at d) s r (t ++ #[]) q B sl' rfl hA' (by rw [Array.getElem?_setIfInBounds_ne e0]; exact h0) (by rw [Array.getElem?_setIfInBounds_self_of_lt hjl]) (hWd w d hW) hc
          simpa [MemOp.ofEvents] using this
        · obtain ⟨gs', t', q', hr', hsz, h0', hj', hA', hlt'⟩ := hA.slip (sl := sl') (w := w.at d) hi e0 ej hx hstb hc
          exact Win.step (hst.trans hr') (ih _ (by omega) gs' (w.at d) s r _ q' B sl' rfl hA' (h0'.trans h0) (hj'.trans hj) (hWd w d hW) hc)
  | @close b b' n hr hwk hs hqd =>
    intro M
    induction M using Nat.strongRecOn with
    | _ M ih =>
      intro gs w s r t q B sl hM hA h0 hj hW hc
      have hjp := hA.j0
      have hstb := hA.stb h0 hj (.inl ha) (.inl hr)
      have haw : ∀ x ∈ gs, awake x := fun x hx => by
        obtain ⟨i, hi, rfl⟩ := Array.mem_iff_getElem.1 hx
        exact (hstb i _ (Array.getElem?_eq_getElem hi)).awake
      obtain ⟨i, x, d, sl', hi, hx, hst⟩ := crowd_pick (P := P) (w := w) (sl := sl) haw ⟨0, a, h0, ha⟩
      have hlt : 0 < gs.size := (Array.getElem?_eq_some_iff.1 h0).1
      have hjl : j < gs.size := (Array.getElem?_eq_some_iff.1 hj).1
      by_cases e0 : i = 0
      · subst e0
        obtain rfl : x = a := by rw [h0] at hi; exact (Option.some.inj hi).symm
        rcases hD with hord | ⟨z, hcm, hmeet, hsh⟩
        · obtain ⟨a', w', es, e, hq, hc', hk⟩ := hord (w.at d) s r (hWd w d hW) hc
          have hrunT := runT_crowd_go (P := P) (sl := sl') (i := 0) hi (show stepG P (0 == 0) x (w.at d) = _ from e)
          rw [map_woken hstb hc'] at hrunT
          obtain ⟨B', hA'⟩ := hA.own0 (a' := a') (fn := x.frame.fn) (pos := x.frame.place) hq
          exact Win.step (hst.trans hrunT) (hk _ _ _ _ _ _ hA' (by rw [Array.getElem?_setIfInBounds_self_of_lt hlt]) (by rw [Array.getElem?_setIfInBounds_ne (by omega)]; exact hj) (.inl (Sender.close hr hwk hs hqd)))
        · have hp := part_nil hA (i := 0) (send := true) (fun y h => absurd rfl h) (fun y _ hy => by rw [hj] at hy; cases hy; exact offersAt_of_not_blocked (by rw [hr]; simp) _ _)
          have hrunT := crowd_waits (P := P) (sl := sl') (i := 0) hi (show stepG P (0 == 0) x (w.at d) = _ from hcm (w.at d)) (fun cc hcc => by
            rw [show cc = rcase c z by simpa using hcc]
            exact ways_recv_none (show (w.at d).heap[c]? = _ from hc) hp)
          have hA' := hA.gen (gs' := gs.setIfInBounds 0 (parked x #[rcase c z] (.recv true))) (u := #[]) (by simp) (fun k hk hkj => by rw [Array.getElem?_setIfInBounds_ne (by omega)]) (Nat.le_refl _) (by simpa using hA.past) (fun k _ => by simp)
          refine Win.step (hst.trans hrunT) ?_
          have := rpark ha hWd hcm hmeet hsh (Sender.close hr hwk hs hqd) _ (gs.setIfInBounds 0 (parked x #[rcase c z] (.recv true))) (w.at d) s r (t ++ #[]) q B sl' rfl hA' (by rw [Array.getElem?_setIfInBounds_self_of_lt hlt]) (by rw [Array.getElem?_setIfInBounds_ne (by omega)]; exact hj) (hWd w d hW) hc
          simpa [MemOp.ofEvents] using this
      · by_cases ej : i = j
        · subst ej
          obtain rfl : x = b := by rw [hj] at hi; exact (Option.some.inj hi).symm
          have hi0 : (i == 0) = false := by simp [e0]
          have hrunT := runT_crowd_go (P := P) (sl := sl') (i := i) hi (by rw [hi0]; exact hs (w.at d) 0 s r hc)
          refine Win.step (hst.trans hrunT) ?_
          have hA' : Af P c i ((gs.map (woken P x b' ((w.at d).setChan c 0 #[] true s r false))).setIfInBounds i b') t q B := by
            refine ⟨fun k y hk hkj hy => ?_, fun k hk => hA.above k (by simpa using hk), hA.hear, hA.j0, hA.past, hA.cB⟩
            rw [Array.getElem?_setIfInBounds_ne (by omega), Array.getElem?_map] at hy
            obtain ⟨y', hy', rfl⟩ := Option.map_eq_some_iff.1 hy
            have hqy := hA.old k y' hk hkj hy'
            rw [woken_quitsD hqy]
            exact hqy
          refine hclose rfl (w.at d) s r (hWd w d hW) hc _ _ _ _ n sl' b' _ _ hA' ?_ ?_ hqd
          · rw [Array.getElem?_setIfInBounds_ne e0, Array.getElem?_map, h0, Option.map_some, woken_run ha]
          · rw [Array.getElem?_setIfInBounds_self_of_lt (by simpa using hjl)]
        · obtain ⟨gs', t', q', hr', hsz, h0', hj', hA', hlt'⟩ := hA.slip (sl := sl') (w := w.at d) hi e0 ej hx hstb hc
          exact Win.step (hst.trans hr') (ih _ (by omega) gs' (w.at d) s r _ q' B sl' rfl hA' (h0'.trans h0) (hj'.trans hj) (hWd w d hW) hc)
  | @step vs b N hr hs hn ihS =>
    intro M
    induction M using Nat.strongRecOn with
    | _ M ih =>
      intro gs w s r t q B sl hM hA h0 hj hW hc
      have hjp := hA.j0
      have hstb := hA.stb h0 hj (.inl ha) (.inl hr)
      have haw : ∀ x ∈ gs, awake x := fun x hx => by
        obtain ⟨i, hi, rfl⟩ := Array.mem_iff_getElem.1 hx
        exact (hstb i _ (Array.getElem?_eq_getElem hi)).awake
      obtain ⟨i, x, d, sl', hi, hx, hst⟩ := crowd_pick (P := P) (w := w) (sl := sl) haw ⟨0, a, h0, ha⟩
      have hlt : 0 < gs.size := (Array.getElem?_eq_some_iff.1 h0).1
      have hjl : j < gs.size := (Array.getElem?_eq_some_iff.1 hj).1
      by_cases e0 : i = 0
      · subst e0
        obtain rfl : x = a := by rw [h0] at hi; exact (Option.some.inj hi).symm
        rcases hD with hord | ⟨z, hcm, hmeet, hsh⟩
        · obtain ⟨a', w', es, e, hq, hc', hk⟩ := hord (w.at d) s r (hWd w d hW) hc
          have hrunT := runT_crowd_go (P := P) (sl := sl') (i := 0) hi (show stepG P (0 == 0) x (w.at d) = _ from e)
          rw [map_woken hstb hc'] at hrunT
          obtain ⟨B', hA'⟩ := hA.own0 (a' := a') (fn := x.frame.fn) (pos := x.frame.place) hq
          exact Win.step (hst.trans hrunT) (hk _ _ _ _ _ _ hA' (by rw [Array.getElem?_setIfInBounds_self_of_lt hlt]) (by rw [Array.getElem?_setIfInBounds_ne (by omega)]; exact hj) (.inl (Sender.step N hr hs hn)))
        · have hp := part_nil hA (i := 0) (send := true) (fun y h => absurd rfl h) (fun y _ hy => by rw [hj] at hy; cases hy; exact offersAt_of_not_blocked (by rw [hr]; simp) _ _)
          have hrunT := crowd_waits (P := P) (sl := sl') (i := 0) hi (show stepG P (0 == 0) x (w.at d) = _ from hcm (w.at d)) (fun cc hcc => by
            rw [show cc = rcase c z by simpa using hcc]
            exact ways_recv_none (show (w.at d).heap[c]? = _ from hc) hp)
          have hA' := hA.gen (gs' := gs.setIfInBounds 0 (parked x #[rcase c z] (.recv true))) (u := #[]) (by simp) (fun k hk hkj => by rw [Array.getElem?_setIfInBounds_ne (by omega)]) (Nat.le_refl _) (by simpa using hA.past) (fun k _ => by simp)
          refine Win.step (hst.trans hrunT) ?_
          have := rpark ha hWd hcm hmeet hsh (Sender.step N hr hs hn) _ (gs.setIfInBounds 0 (parked x #[rcase c z] (.recv true))) (w.at d) s r (t ++ #[]) q B sl' rfl hA' (by rw [Array.getElem?_setIfInBounds_self_of_lt hlt]) (by rw [Array.getElem?_setIfInBounds_ne (by omega)]; exact hj) (hWd w d hW) hc
          simpa [MemOp.ofEvents] using this
      · by_cases ej : i = j
        · subst ej
          obtain rfl : x = b := by rw [hj] at hi; exact (Option.some.inj hi).symm
          have hi0 : (i == 0) = false := by simp [e0]
          have hrunT := runT_crowd_go (P := P) (sl := sl') (i := i) hi (by rw [hi0]; exact hs (w.at d))
          rw [map_woken hstb (show Open c s r ((w.at d).at (N (w.at d)).2) from hc)] at hrunT
          have hA' := hA.gen (gs' := gs.setIfInBounds i (N (w.at d)).1) (u := #[]) (by simp) (fun k hk hkj => by rw [Array.getElem?_setIfInBounds_ne (by omega)]) (Nat.le_refl _) (by simpa using hA.past) (fun k _ => by simp)
          refine Win.step (hst.trans hrunT) ?_
          have := ihS (w.at d) hD hclose _ (gs.setIfInBounds i (N (w.at d)).1) ((w.at d).at (N (w.at d)).2) s r (t ++ #[]) q B sl' rfl hA' (by rw [Array.getElem?_setIfInBounds_ne e0]; exact h0) (by rw [Array.getElem?_setIfInBounds_self_of_lt hjl]) (hWd (w.at d) _ (hWd w d hW)) hc
          simpa [MemOp.ofEvents] using this
        · obtain ⟨gs', t', q', hr', hsz, h0', hj', hA', hlt'⟩ := hA.slip (sl := sl') (w := w.at d) hi e0 ej hx hstb hc
          exact Win.step (hst.trans hr') (ih _ (by omega) gs' (w.at d) s r _ q' B sl' rfl hA' (h0'.trans h0) (hj'.trans hj) (hWd w d hW) hc)
/-- ████ ONE PLACE OF GOROUTINE 0's, ON EVERY SCHEDULE. ████ -/
theorem place_kid (ha : a.status = .running) (hWd : ∀ w d, Wk w → Wk (w.at d)) (hD : Does P Post c j a vs Wk) (hclose : vs = [] → ∀ (w : World) (s r : Nat), Wk w → Open c s r w → Shutw P Post c j a (w.setChan c 0 #[] true s r false)) {w : World} {s r : Nat} (hW : Wk w) (hc : Open c s r w) : Kid P Post c j a vs w := by
  intro gs t q B sl b hA h0 hj hS
  rcases hS with hS | ⟨v, vs', g₂, z, hv, rfl, hn⟩
  · exact rrun ha hWd hD hclose hS _ gs w s r t q B sl rfl hA h0 hj hW hc
  · exact spark ha hWd hD hv hn _ gs w s r t q B sl rfl hA h0 hj hW hc
end
end Go.Proofs.Ytfhcpehfmecpjaa
/- The trace between the close of a channel and the receive that finds it closed. -/
namespace Go.Proofs.Ytfhcpehfmecpjaa
open Go.Conc

/-- WHAT IS HELD OF THE TRACE BEHIND A CLOSE (number m + 1, goroutine j's) of channel c: all is known to goroutine 0 but the closer's look at the channel (number m). -/
structure Pc (c m j : Nat) (B : Nat) (t : Trace) : Prop where
  clean : ∀ said, ¬ Race said t
  known : ∀ i a, touchAt t i = some a → a.loc.isMemory = true → Knows t 0 i ∨ (i = m ∧ a.loc = .obj c ∧ a.write = false ∧ a.kind = .atomic)
  look : ∃ op, t[m]? = some op ∧ op.g = j
  shut : ∃ op, t[m + 1]? = some op ∧ op.g = j ∧ op.act = .close c
  heard : t.heard (m + 1)
  noW : NoW t
  hears : Deaf t 0 = 0
  seen : ∀ op ∈ t, op.act.low B
section
variable {c m j B : Nat} {t u : Trace}
theorem Pc.keep {B' : Nat} (h : Pc c m j B t) (hB : B ≤ B') (hclean : ∀ said, ¬ Race said (t ++ u)) (hw : NoW (t ++ u)) (hnew : ∀ i a op, t.size ≤ i → (t ++ u)[i]? = some op → op.act.touch? = some a → a.loc.isMemory = true → Knows (t ++ u) 0 i) (hd : Deaf (t ++ u) 0 = Deaf t 0) (hl : ∀ op ∈ u, op.act.low B') : Pc c m j B' (t ++ u) := by
  obtain ⟨o1, a1, a2⟩ := h.look
  obtain ⟨o2, b1, b2, b3⟩ := h.shut
  have l1 := lt_size_of_getElem? a1
  have l2 := lt_size_of_getElem? b1
  refine ⟨hclean, fun i a ha hm => ?_, ⟨o1, by rw [getElem?_append_old l1]; exact a1, a2⟩, ⟨o2, by rw [getElem?_append_old l2]; exact b1, b2, b3⟩, ?_, hw, hd.trans h.hears, fun op hop => ?_⟩
  · obtain ⟨x, hx, hxa⟩ := touch_of ha
    rcases getElem?_append_cases hx with ⟨_, hx'⟩ | ⟨hge, hxu⟩
    · exact (h.known i a (by rw [touchAt_of hx']; exact hxa) hm).imp (·.app u) id
    · exact .inl (hnew i a x (by omega) hx hxa hm)
  · obtain ⟨g', hg', hd'⟩ := h.heard
    exact ⟨g', by rw [g?_old l2]; exact hg', by rw [deaf_old (Nat.le_of_lt l2)]; exact hd'⟩
  · rcases Array.mem_append.1 hop with q | q
    · exact MemAct.low_mono hB (h.seen op q)
    · exact hl op q
theorem Pc.appMute {g : Nat} (h : Pc c m j B t) (hg : g ≠ 0) (hu : ∀ op ∈ u, op.g = g) (hn : ∀ op ∈ u, op.act.touch? = none) (hl : ∀ op ∈ u, op.act.low B) : Pc c m j B (t ++ u) := by
  refine h.keep (Nat.le_refl _) (fun said => noRace_append (h.clean said) hu fun i a _ op hop b hb _ => (by rw [hn op hop] at hb; cases hb)) (h.noW.app (fun op hop a ha => by rw [hn op hop] at ha; cases ha)) (fun i a op hi hop ha _ => ?_) (Deaf_other t hg u hu) hl
  rcases getElem?_append_cases hop with ⟨hlt, _⟩ | ⟨_, hxu⟩
  · omega
  · rw [hn op hxu] at ha; cases ha
theorem Pc.app0 {B' : Nat} (h : Pc c m j B t) (hB : B ≤ B') (hu : ∀ op ∈ u, op.g = 0) (hs : ∀ op ∈ u, ∀ b, op.act.touch? = some b → ∀ r, b.loc = .obj r → b.write = false) (hd : Deaf (t ++ u) 0 = Deaf t 0) (hl : ∀ op ∈ u, op.act.low B') : Pc c m j B' (t ++ u) := by
  refine h.keep hB (fun said => noRace_append (h.clean said) hu fun i a ha op hop b hb hc => ?_) (h.noW.app hs) (fun i a op hi hop ha _ => ?_) hd hl
  · rcases h.known i a ha hc.2.1 with hk | ⟨_, q1, q2, _⟩
    · exact hk
    · exfalso
      have := hs op hop b hb c (hc.1 ▸ q1)
      rcases hc.2.2.1 with w1 | w1
      · rw [q2] at w1; cases w1
      · rw [this] at w1; cases w1
  · rcases getElem?_append_cases hop with ⟨hlt, _⟩ | ⟨_, hxu⟩
    · omega
    · have := knows_own hop
      rw [hu op hxu] at this
      exact this
theorem keeps_pc (c m j : Nat) : Keeps (fun B t => Pc c m j B t) := by
  refine ⟨fun {B t i fn pos es} h hi hm => h.appMute hi (fun op hop => by obtain ⟨e, _, rfl⟩ := Go.Conc.mem_ofEvents hop; rfl) (fun op hop => by obtain ⟨e, he, rfl⟩ := Go.Conc.mem_ofEvents hop; exact touch_mute (hm e he)) (fun op hop => by obtain ⟨e, he, rfl⟩ := Go.Conc.mem_ofEvents hop; exact low_mute (hm e he) B), fun {B B' t fn pos es} h hB hq hl => ?_⟩
  refine h.app0 hB (fun op hop => by obtain ⟨e, _, rfl⟩ := Go.Conc.mem_ofEvents hop; rfl) (fun op hop b hb r hbl => ?_) ?_ (fun op hop => by obtain ⟨e, he, rfl⟩ := Go.Conc.mem_ofEvents hop; exact hl e he)
  · obtain ⟨e, he, rfl⟩ := Go.Conc.mem_ofEvents hop
    obtain ⟨l1, l2⟩ := touch_quiet (hq e he) hb
    rw [l2]
    exact (hq e he).2 r (l1 ▸ hbl)
  · rw [Deaf_own]
    exact deafBehind_still (fun e he => ⟨fun hx => (by cases (hq e he).1 _ hx), fun hx => (by cases (hq e he).1 _ hx)⟩) _
/-- The close itself. -/
theorem Pc.of (h : Pi B t) (hj : j ≠ 0) (hd : Deaf t j = 0) (hc : c < B) (fn : FuncId) (pos : String) : Pc c t.size j B (t ++ MemOp.ofEvents j fn pos (closeEvents c)) := by
  rw [closeOps]
  generalize hu' : (#[{ g := j, fn := fn, pos := pos, act := .access ⟨.obj c, false, true⟩ }, { g := j, fn := fn, pos := pos, act := .close c }] : Trace) = u
  have e0 : (t ++ u)[t.size]? = some { g := j, fn := fn, pos := pos, act := .access ⟨.obj c, false, true⟩ } := by subst hu'; simp
  have e1 : (t ++ u)[t.size + 1]? = some { g := j, fn := fn, pos := pos, act := .close c } := by subst hu'; simp
  have hmem : ∀ op ∈ u, op = { g := j, fn := fn, pos := pos, act := .access ⟨.obj c, false, true⟩ } ∨ op = { g := j, fn := fn, pos := pos, act := .close c } := by
    intro op hop
    subst hu'
    simpa using hop
  have hu : ∀ op ∈ u, op.g = j := fun op hop => by rcases hmem op hop with rfl | rfl <;> rfl
  have ht : ∀ op ∈ u, ∀ b, op.act.touch? = some b → b = ⟨.obj c, false, .atomic⟩ := by
    intro op hop b hb
    rcases hmem op hop with rfl | rfl
    · simpa [MemAct.touch?] using hb.symm
    · simp [MemAct.touch?] at hb
  refine ⟨fun said => noRace_append (h.1.clean said) hu fun i a ha op hop b hb hcf => ?_, fun i a ha hm => ?_, ⟨_, e0, rfl⟩, ⟨_, e1, rfl, rfl⟩, ?_, h.2.app (fun op hop b hb r _ => by rw [ht op hop b hb]), (Deaf_other t hj u hu).trans h.1.hears, fun op hop => ?_⟩
  · exfalso
    have hb' := ht op hop b hb
    subst hb'
    have hw := h.2 i a ha c hcf.1
    rcases hcf.2.2.1 with x | x
    · rw [hw] at x; cases x
    · cases x
  · obtain ⟨x, hx, hxa⟩ := touch_of ha
    rcases getElem?_append_cases hx with ⟨_, hx'⟩ | ⟨hge, hxu⟩
    · rcases h.1.known i a (by rw [touchAt_of hx']; exact hxa) hm with q | q
      · exact .inl (q.app u)
      · exact q.1.elim
    · have hb' := ht x hxu a hxa
      subst hb'
      refine .inr ⟨?_, rfl, rfl, rfl⟩
      have hl : i < (t ++ u).size := lt_size_of_getElem? hx
      have hsz : (t ++ u).size = t.size + 2 := by subst hu'; simp
      have : i ≠ t.size + 1 := by
        intro e
        subst e
        rw [e1] at hx
        cases hx
        simp [MemAct.touch?] at hxa
      omega
  · refine ⟨j, g?_of e1, ?_⟩
    show (t ++ u).deaf j (t.size + 1) = 0
    unfold Trace.deaf
    rw [e0]
    dsimp only
    rw [deaf_old (Nat.le_refl _)]
    exact hd
  · rcases Array.mem_append.1 hop with q | q
    · exact h.1.seen op q
    · rcases hmem op q with rfl | rfl <;> exact hc
/-- The receive that finds the channel closed: all is known to goroutine 0. -/
theorem Pc.take (h : Pc c m j B t) (hc : c < B) (fn : FuncId) (pos : String) : Pi B (t ++ #[{ g := 0, fn := fn, pos := pos, act := .recvClosed c }]) := by
  generalize hu : (#[{ g := 0, fn := fn, pos := pos, act := .recvClosed c }] : Trace) = u
  obtain ⟨o1, a1, a2⟩ := h.look
  obtain ⟨o2, b1, b2, b3⟩ := h.shut
  have l1 := lt_size_of_getElem? a1
  have l2 := lt_size_of_getElem? b1
  have hmem : ∀ op ∈ u, op = { g := 0, fn := fn, pos := pos, act := .recvClosed c } := by
    intro op hop
    subst hu
    simpa using hop
  have hn : ∀ op ∈ u, op.act.touch? = none := fun op hop => by rw [hmem op hop]; rfl
  have e0 : (t ++ u)[t.size]? = some { g := 0, fn := fn, pos := pos, act := .recvClosed c } := by subst hu; simp
  have a1' : (t ++ u)[m]? = some o1 := by rw [getElem?_append_old l1]; exact a1
  have b1' : (t ++ u)[m + 1]? = some o2 := by rw [getElem?_append_old l2]; exact b1
  have hd0 : Deaf (t ++ u) 0 = 0 := (Deaf_quiet (fun op hop d => by rw [hmem op hop]; rfl)).trans h.hears
  have hh1 : (t ++ u).heard (m + 1) := by
    obtain ⟨g', hg', hd'⟩ := h.heard
    exact ⟨g', by rw [g?_old l2]; exact hg', by rw [deaf_old (Nat.le_of_lt l2)]; exact hd'⟩
  have hh2 : (t ++ u).heard t.size := ⟨0, g?_of e0, by rw [deaf_old (Nat.le_refl _)]; exact h.hears⟩
  have edge : HappensBefore (t ++ u) (m + 1) t.size :=
    Relation.TransGen.single (.inr ⟨.closed (by rw [act?_of b1', b3]) (act?_of e0), hh1, hh2⟩)
  have po : HappensBefore (t ++ u) m (m + 1) := hb_po (Nat.lt_succ_self m) a1' b1' (a2.trans b2.symm)
  have hk : ∀ i a, touchAt (t ++ u) i = some a → a.loc.isMemory = true → Knows (t ++ u) 0 i := by
    intro i a ha hm
    obtain ⟨x, hx, hxa⟩ := touch_of ha
    rcases getElem?_append_cases hx with ⟨_, hx'⟩ | ⟨_, hxu⟩
    · rcases h.known i a (by rw [touchAt_of hx']; exact hxa) hm with q | ⟨rfl, _⟩
      · exact q.app u
      · exact ⟨t.size, _, e0, rfl, .inr (po.trans edge)⟩
    · rw [hn x hxu] at hxa; cases hxa
  refine ⟨⟨fun said => noRace_appendMute (h.clean said) hn, fun i a ha hm => .inl (hk i a ha hm), fun i g hg hne hcnt => ?_, hd0, fun op hop => ?_⟩, h.noW.app (fun op hop a ha => by rw [hn op hop] at ha; cases ha)⟩
  · obtain ⟨x, hx, hm, _⟩ := hcnt
    obtain ⟨q, z, hq, hz, hb⟩ := hk i x hx hm
    rcases hb with rfl | hb
    · rw [g?_of hq, hz] at hg
      exact absurd (Option.some.inj hg).symm hne
    · exact ⟨q, by rw [g?_of hq, hz], hb⟩
  · rcases Array.mem_append.1 hop with q | q
    · exact h.seen op q
    · rw [hmem op q]; exact hc
end
end Go.Proofs.Ytfhcpehfmecpjaa
/- The twin's leaps: a receive from a buffer, a receive that finds the channel closed; and what cannot be. -/
namespace Go.Proofs.Ytfhcpehfmecpjaa
open Go.Conc

section
variable {T : Tables} {f : Array Func} {fr : Frame} {tops : List Frame} {w : World} {c cap s r : Nat} {buf : Array Value} {cl tm : Bool} {z : Value}
theorem lone_comm {P : Program} (cs : List Frame) (v : World) : step P (lone fr cs v) = (runT P (crowd #[Gr fr cs] v none) 0).1 := by
  rw [step, stepT, move_lone]
  rfl
theorem lone_part (cs : List Frame) (send : Bool) : partners ((#[Gr fr cs] : Array Goroutine).setIfInBounds 0 ph) c send = [] := by
  refine partners_nil (fun k x hx => ?_)
  cases k with
  | zero =>
    simp at hx
    subst hx
    rfl
  | succ k => simp at hx
/-- A machine of one goroutine that waits for a partner comes to its end. -/
theorem lone_dead {P : Program} (g : Goroutine) (cs : Array CommCase) (sh : CommShape) (v : World) : ∃ o w', step P (crowd #[parked g cs sh] v none) = .ended o w' := by
  have hr : runnable #[parked g cs sh] v.os.mono = [] := by simp [runnable, runnable.go, Goroutine.canRun, parked]
  have ha : ∀ w' : World, ahead { world := w', gs := #[parked g cs sh], rest := { timers := #[], alone := none, slice := none } } false = none := by
    intro w'; simp [ahead, parked]
  have hp : Sem.run P (pure 0 : Sem Nat) v = .ok 0 v := rfl
  have hs : (parked g cs sh).status = .blocked := rfl
  simp only [step, stepT, move, ask, askOn, crowd, hr, due, hp, ha]
  simp [hs, hp, ha]
  generalize endWith _ _ _ _ = G
  cases G <;> exact ⟨_, _, rfl⟩
/-- The receive stands next. -/
def AtRc (P : Program) (fr : Frame) (c : Nat) (z : Value) : Prop := ∀ (main : Bool) (cs : List Frame) (w : World), stepG P main (Gr fr cs) w = .comm (Gr fr cs) #[rcase c z] true (.recv true) w #[]
theorem leap_recv (h : AtRc ⟨T, f⟩ fr c z) (hc : w.heap[c]? = some (.chan cap buf cl s r tm)) (hb : 0 < buf.size) :
    Leap ⟨T, f⟩ fr tops w (fr.finish (.tuple #[buf.getD 0 undef, .bool true])) tops (w.setChan c cap (buf.extract 1 buf.size) cl s (r + 1) tm) := by
  refine ⟨rfl, rfl, fun τ _ => ⟨0, ?_⟩⟩
  simp only [runN]
  rw [lone_comm, crowd_recv_buf (i := 0) (g := Gr fr (tops ++ [sent ⟨T, f⟩])) rfl (h true _ (Rt w τ)) (show (Rt w τ).heap[c]? = _ from hc) hb (lone_part _ _)]
  rfl
theorem leap_shut (h : AtRc ⟨T, f⟩ fr c z) (hc : w.heap[c]? = some (.chan cap #[] true s r tm)) :
    Leap ⟨T, f⟩ fr tops w (fr.finish (.tuple #[z, .bool false])) tops w := by
  refine ⟨rfl, rfl, fun τ _ => ⟨0, ?_⟩⟩
  simp only [runN]
  rw [lone_comm, crowd_recv_closed (i := 0) (g := Gr fr (tops ++ [sent ⟨T, f⟩])) rfl (h true _ (Rt w τ)) (show (Rt w τ).heap[c]? = _ from hc) (lone_part _ _)]
  rfl
/-- It cannot wait at a channel that is open and empty: nobody would come. -/
theorem recv_some {Fin : Frame → World → Prop} (h : AtRc ⟨T, f⟩ fr c z) (hm : fr.mode = .run) (hc : w.heap[c]? = some (.chan cap buf cl s r tm)) (hT : Tm2 ⟨T, f⟩ Fin fr tops w) : 0 < buf.size ∨ (buf = #[] ∧ cl = true) := by
  rcases Nat.eq_zero_or_pos buf.size with h0 | h0
  · have hb : buf = #[] := Array.eq_empty_of_size_eq_zero h0
    subst hb
    cases cl with
    | true => exact .inr ⟨rfl, rfl⟩
    | false =>
      exfalso
      obtain ⟨n, fr', w', e, l, _⟩ := hT w.tape (fun _ _ => rfl)
      have hw : ∀ cc ∈ (#[rcase c z] : Array CommCase), NoWays (Rt w w.tape) ((#[Gr fr (tops ++ [sent ⟨T, f⟩])] : Array Goroutine).setIfInBounds 0 ph) cc := by
        intro cc hcc
        rw [show cc = rcase c z by simpa using hcc]
        exact ways_recv_none (show (Rt w w.tape).heap[c]? = _ from hc) (lone_part _ _)
      have e1 : step ⟨T, f⟩ (lone fr (tops ++ [sent ⟨T, f⟩]) (Rt w w.tape)) = .next (crowd #[parked (Gr fr (tops ++ [sent ⟨T, f⟩])) #[rcase c z] (.recv true)] (Rt w w.tape) none) := by
        rw [lone_comm, crowd_waits (i := 0) (g := Gr fr (tops ++ [sent ⟨T, f⟩])) rfl (h true _ (Rt w w.tape)) hw]
        rfl
      cases n with
      | zero =>
        simp only [runN, lone, Stepped.next.injEq, Machine.mk.injEq] at e
        have e2 : (Gr fr (tops ++ [sent ⟨T, f⟩])) = (Gr fr' [sent ⟨T, f⟩]) := by simpa using e.2.1
        injection e2 with e3
        rw [e3] at hm
        rw [l.1] at hm
        cases hm
      | succ n =>
        simp only [runN, e1] at e
        cases n with
        | zero =>
          simp only [runN, crowd, lone, Stepped.next.injEq, Machine.mk.injEq] at e
          have e2 : parked (Gr fr (tops ++ [sent ⟨T, f⟩])) #[rcase c z] (.recv true) = (Gr fr' [sent ⟨T, f⟩]) := by simpa using e.2.1
          have e3 := congrArg Goroutine.status e2
          cases e3
        | succ n =>
          obtain ⟨o, w3, hd⟩ := lone_dead (P := ⟨T, f⟩) (Gr fr (tops ++ [sent ⟨T, f⟩])) #[rcase c z] (.recv true) (Rt w w.tape)
          simp only [runN, hd] at e
          cases e
  · exact .inl h0
end
end Go.Proofs.Ytfhcpehfmecpjaa
/- A receive stands next: what the machine sees of it. -/
namespace Go.Proofs.Ytfhcpehfmecpjaa
open Go.Conc

section
variable {ok : Op → Bool} {S : List FuncId} {P : Program} {fr : Frame} {c : Nat} {z : Value}
/-- A RECEIVE OF TWO RESULTS, its channel known: goroutine 0 comes to the place where partners meet, whatever the world. 'hu', 'hz': what the tables say of the channel's type. -/
theorem at_rc (h : Ord ok S fr) (hm : fr.mode = .run) {ops : Array Oper} {i : Nat} {r : List Nat} {k : List Item} {o : Oper} {ct el : TypeId} {d : ChanDir} {ch : Operand} (ht : fr.todo = .inRegion ops (i :: r) :: k) (ho : ops[i]? = some o)
    (hw : Region.wanted o (yielded ops fr.tmps) = true) (hop : o.op = .recv ct ch true) (hc : fr.eval ch = .chan (some c)) (hu : ∀ w es, (underlying ct).runT P w es = (.ok (.chan d el) w, es)) (hz : ∀ w es, (zeroValue el).runT P w es = (.ok z w, es)) : AtRc P fr c z := by
  intro main cs w
  have e : (execOp fr.eval o).runT P w #[] = (.ok (.comm #[rcase c z] true (.recv true)) w, #[]) := by
    unfold execOp
    rw [hop]
    have e1 : ∀ {α β : Type} (x : Sem α) (F : α → Sem β), (x >>= F) = x.bind F := fun _ _ => rfl
    simp only [e1, Sem.runT_bind', hu, hz, hc]
    rfl
  rw [step_op h.round hm ht ho hw]
  simp [-Sem.runT_eq, stepG.apply, e, GStep.after, h.kind, seen]
end
end Go.Proofs.Ytfhcpehfmecpjaa
/- A run that ends as it should never panics. -/
namespace Go.Proofs.Ytfhcpehfmecpjaa
open Go.Conc

section
variable {ok : Op → Bool} {S : List FuncId} {T : Tables} {f : Array Func} {fr : Frame} {tops : List Frame} {w : World}
theorem panic_up (h : Ord ok S fr) {ch : List PanicEntry} (hm : fr.mode = .panicking ch) {fn : Func} (hf : f[fr.fn]? = some fn) (main : Bool) (c : Frame) (x : List Frame) (v : World) : stepG ⟨T, f⟩ main (Gr fr (c :: x)) v = .go (Gr (c.raise ch) x) v #[] := by
  have hdf := h.defers
  obtain ⟨fn', tmps, todo, defers, mode, kind, round⟩ := fr
  simp only at hm hdf hf
  subst hm hdf
  simp [stepG, unwind, Frame.catches, hf]
theorem raise_mode {c : Frame} (hm : c.mode = .run) (ch : List PanicEntry) : (c.raise ch).mode = .panicking ch := by
  unfold Frame.raise
  simp [hm]
theorem panic_run (hF : ∀ x ∈ S, Fine ok f f x) : ∀ (n : Nat) (fr : Frame) (tops : List Frame) (w : World) (ch : List PanicEntry) (fr' : Frame) (w' : World), Ord ok S fr → (∀ t ∈ tops, Ord ok S t ∧ t.mode = .run) → fr.mode = .panicking ch →
    runN ⟨T, f⟩ n (lone fr (tops ++ [sent ⟨T, f⟩]) w) = .next (lone fr' [sent ⟨T, f⟩] w') → fr'.mode ≠ .returning := by
  intro n
  induction n with
  | zero =>
    intro fr tops w ch fr' w' h ht hm e
    simp only [runN, lone, Stepped.next.injEq, Machine.mk.injEq] at e
    have e2 : (Gr fr (tops ++ [sent ⟨T, f⟩])) = (Gr fr' [sent ⟨T, f⟩]) := by simpa using e.2.1
    injection e2 with e3 e4
    rw [← e3, hm]
    simp
  | succ n ih =>
    intro fr tops w ch fr' w' h ht hm e
    obtain ⟨_, fn, k2, _⟩ := (hF fr.fn h.fn).1
    cases tops with
    | nil =>
      exfalso
      simp only [runN, List.nil_append] at e
      rw [lone_step (panic_up h hm k2 true (sent ⟨T, f⟩) [] w)] at e
      dsimp only at e
      cases n with
      | zero =>
        simp only [runN, lone, Stepped.next.injEq, Machine.mk.injEq] at e
        have := e.2.1
        simp at this
      | succ n =>
        obtain ⟨o, w3, es, hs⟩ := sent_panic (T := T) (f := f) ch w
        simp only [runN, lone_ended hs] at e
        cases e
    | cons c rest =>
      simp only [runN, List.cons_append] at e
      rw [lone_step (panic_up h hm k2 true c (rest ++ [sent ⟨T, f⟩]) w)] at e
      have hc := ht c (.head _)
      refine ih (c.raise ch) rest w ch fr' w' ?_ (fun t q => ht t (.tail _ q)) (raise_mode hc.2 ch) e
      unfold Frame.raise
      split <;> exact ⟨hc.1.fn, hc.1.items, hc.1.defers, hc.1.kind, hc.1.round⟩
/-- A RUN THAT ENDS AS IT SHOULD DOES NOT PANIC. -/
theorem Tm2.calm {Fin : Frame → World → Prop} (hT : Tm2 ⟨T, f⟩ Fin fr tops w) (hF : ∀ x ∈ S, Fine ok f f x) (h : Ord ok S fr) (ht : ∀ t ∈ tops, Ord ok S t ∧ t.mode = .run) (ch : List PanicEntry) : fr.mode ≠ .panicking ch := by
  intro hm
  obtain ⟨n, fr', w', e, l, _⟩ := hT w.tape (fun _ _ => rfl)
  exact panic_run hF n fr tops _ ch fr' w' h ht hm e l.1
end
end Go.Proofs.Ytfhcpehfmecpjaa
/- The frame of a function that ranges over a channel: where it may stand until the channel is found closed. -/
namespace Go.Proofs.Ytfhcpehfmecpjaa
open Go.Conc

/-- Code that neither returns nor leaves a block but its own and those of 'bl', writes none of 'sl', and whose operations pass the test. -/
def within (ok : Op → Bool) (sl : List Nat) (bl : List Nat) : Code → Bool
  | .skip => true
  | .exit id => bl.contains id
  | .region _ ops _ => ops.all (fun o => ok o.op && sl.all (fun s => o.dst != some s))
  | .seq a b => within ok sl bl a && within ok sl bl b
  | .cond _ a b => within ok sl bl a && within ok sl bl b
  | .block id c => within ok sl (id :: bl) c
  | .loop c => within ok sl bl c
  | .scope c => within ok sl bl c
  | _ => false
/-- The blocks that these items are in. -/
def blocks : List Item → List Nat
  | [] => []
  | .inBlock id :: k => id :: blocks k
  | _ :: k => blocks k
def inPre (ok : Op → Bool) (sl : List Nat) : List Item → Bool
  | [] => true
  | .inBlock _ :: k => inPre ok sl k
  | .code c :: k => within ok sl (blocks k) c && inPre ok sl k
  | .inLoop c :: k => within ok sl (blocks k) c && inPre ok sl k
  | .inScope c :: k => within ok sl (blocks k) c && inPre ok sl k
  | .inRegion ops _ :: k => ops.all (fun o => ok o.op && sl.all (fun s => o.dst != some s)) && inPre ok sl k
  | _ => false
section
variable {ok : Op → Bool} {sl : List Nat} {fr fr' : Frame} {pre tail k' : List Item}
theorem exit_pre {id : Nat} : ∀ {pre : List Item}, inPre ok sl pre = true → id ∈ blocks pre → ∃ pre', exitTo id (pre ++ tail) = some (pre' ++ tail) ∧ inPre ok sl pre' = true
  | [], _, h => by simp [blocks] at h
  | x :: pre, hp, h => by
    have step : inPre ok sl pre = true → id ∈ blocks pre → ∃ pre', exitTo id (pre ++ tail) = some (pre' ++ tail) ∧ inPre ok sl pre' = true := exit_pre
    cases x with
    | inBlock id' =>
      simp only [inPre] at hp
      simp only [List.cons_append, exitTo]
      by_cases e : id' = id
      · subst e
        exact ⟨pre, by simp, hp⟩
      · have hb : (id' == id) = false := by simpa using e
        rw [hb]
        refine step hp ?_
        simp only [blocks, List.mem_cons] at h
        rcases h with h | h
        · exact absurd h.symm e
        · exact h
    | code c => simp only [inPre, Bool.and_eq_true] at hp; exact step hp.2 h
    | inLoop c => simp only [inPre, Bool.and_eq_true] at hp; exact step hp.2 h
    | inScope c => simp only [inPre, Bool.and_eq_true] at hp; exact step hp.2 h
    | inRegion ops l => simp only [inPre, Bool.and_eq_true] at hp; exact step hp.2 h
    | _ => simp [inPre] at hp
/-- A MOVE OF CONTROL INSIDE STAYS INSIDE. -/
theorem ctl_pre {x : Item} (ht : fr.todo = x :: pre ++ tail) (hp : inPre ok sl (x :: pre) = true) (hc : Ctl fr k') : ∃ pre', k' = pre' ++ tail ∧ inPre ok sl pre' = true := by
  unfold Ctl at hc
  rw [ht] at hc
  cases x with
  | inBlock id => exact ⟨pre, hc, hp⟩
  | inScope c => simp only [inPre, Bool.and_eq_true] at hp; exact ⟨pre, hc, hp.2⟩
  | inLoop c => simp only [inPre, Bool.and_eq_true] at hp; exact ⟨.code c :: .inLoop c :: pre, hc, by simp [inPre, blocks, hp]⟩
  | inRegion ops l =>
    simp only [inPre, Bool.and_eq_true] at hp
    cases l with
    | nil => exact ⟨pre, hc, hp.2⟩
    | cons i r => exact hc.elim
  | code c =>
    simp only [inPre, Bool.and_eq_true] at hp
    obtain ⟨h1, h2⟩ := hp
    cases c with
    | skip => exact ⟨pre, hc, h2⟩
    | ret => exact hc.elim
    | seq a b =>
      simp only [within, Bool.and_eq_true] at h1
      exact ⟨.code a :: .code b :: pre, hc, by simp [inPre, blocks, h1, h2]⟩
    | cond c a b =>
      simp only [within, Bool.and_eq_true] at h1
      obtain ⟨v, _, e⟩ := hc
      exact ⟨.code (if v then a else b) :: pre, e, by cases v <;> simp [inPre, h1, h2]⟩
    | block id c => exact ⟨.code c :: .inBlock id :: pre, hc, by simpa [inPre, blocks, within, h2] using h1⟩
    | loop c => exact ⟨.code c :: .inLoop c :: pre, hc, by simpa [inPre, blocks, within, h2] using h1⟩
    | scope c => exact ⟨.code c :: .inScope c :: pre, hc, by simpa [inPre, blocks, within, h2] using h1⟩
    | exit id =>
      obtain ⟨pre', e, h⟩ := exit_pre (ok := ok) (sl := sl) (tail := tail) (id := id) h2 (by simpa [within] using h1)
      have e' : exitTo id (pre ++ tail) = some k' := hc
      rw [e] at e'
      cases e'
      exact ⟨pre', rfl, h⟩
    | region id ops d =>
      obtain ⟨l, _, e⟩ := hc
      exact ⟨.inRegion ops l :: pre, e, by simpa [inPre, within, h2] using h1⟩
    | _ => exact hc.elim
  | _ => exact hc.elim
/-- A result that is written inside leaves the slots as they were. -/
theorem fin_pre {v : Value} {ops : Array Oper} {i : Nat} {r : List Nat} (ht : fr.todo = .inRegion ops (i :: r) :: pre ++ tail) (hp : inPre ok sl (.inRegion ops (i :: r) :: pre) = true) :
    (fr.finish v).todo = .inRegion ops r :: pre ++ tail ∧ inPre ok sl (.inRegion ops r :: pre) = true ∧ (∀ s ∈ sl, (fr.finish v).tmps[s]? = fr.tmps[s]?) ∧ (fr.finish v).fn = fr.fn ∧ (fr.finish v).mode = fr.mode := by
  have hp' := hp
  simp only [inPre, Bool.and_eq_true] at hp'
  have hf : fr.finish v = { fr with tmps := (match (ops[i]?).bind (·.dst) with | some d => fr.tmps.setIfInBounds d v | none => fr.tmps), todo := .inRegion ops r :: (pre ++ tail) } := by
    unfold Frame.finish
    rw [ht]
    rfl
  rw [hf]
  refine ⟨rfl, by simpa [inPre] using hp', fun s hs => ?_, rfl, rfl⟩
  dsimp only
  cases ho : ops[i]? with
  | none => rfl
  | some o =>
    cases hd : o.dst with
    | none => simp [hd]
    | some d =>
      simp only [Option.bind_some, hd]
      refine Array.getElem?_setIfInBounds_ne ?_
      rintro rfl
      have h1 := Array.all_eq_true_iff_forall_mem.1 hp'.1 o (Array.mem_of_getElem? ho)
      have h2 := List.all_eq_true.1 (Bool.and_eq_true_iff.1 h1).2 d hs
      simp [hd] at h2
/-- An ordinary frame's move leaves it ordinary. -/
theorem Ord.move {S : List FuncId} (h : Ord ok S fr) (hm : Move fr fr') : Ord ok S fr' := by
  cases hm with
  | same => exact h
  | fin v _ _ => exact h.finish v
  | ret _ _ => exact ⟨h.fn, h.items, h.defers, h.kind, h.round⟩
  | raise ch =>
    unfold Frame.raise
    split <;> exact ⟨h.fn, h.items, h.defers, h.kind, h.round⟩
  | to k' _ hc =>
    refine h.todo ?_
    have hi := h.items
    unfold Ctl at hc
    have cons : ∀ {a : Item} {k : List Item}, okItem ok a = true → (∀ i ∈ k, okItem ok i = true) → ∀ i ∈ a :: k, okItem ok i = true := by
      intro a k ha hk i hi
      rcases List.mem_cons.1 hi with rfl | hi
      · exact ha
      · exact hk i hi
    cases ht : fr.todo with
    | nil => rw [ht] at hc; exact hc.elim
    | cons x k =>
      rw [ht] at hc hi
      have hx := hi x (.head _)
      have hk : ∀ i ∈ k, okItem ok i = true := fun i q => hi i (.tail _ q)
      cases x with
      | inBlock id => exact hc ▸ hk
      | inScope c => exact hc ▸ hk
      | inLoop c => exact hc ▸ cons (a := .code c) hx (cons hx hk)
      | inRegion ops l =>
        cases l with
        | nil => exact hc ▸ hk
        | cons i r => exact hc.elim
      | code c =>
        cases c with
        | skip => exact hc ▸ hk
        | seq a b =>
          simp only [okItem, okCode, Bool.and_eq_true] at hx
          exact hc ▸ cons (a := .code a) hx.1 (cons (a := .code b) hx.2 hk)
        | cond c a b =>
          simp only [okItem, okCode, Bool.and_eq_true] at hx
          obtain ⟨v, _, e⟩ := hc
          rw [e]
          exact cons (by cases v; exact hx.2; exact hx.1) hk
        | block id c => exact hc ▸ cons (a := .code c) hx (cons (a := .inBlock id) rfl hk)
        | loop c => exact hc ▸ cons (a := .code c) hx (cons (a := .inLoop c) hx hk)
        | scope c => exact hc ▸ cons (a := .code c) hx (cons (a := .inScope c) hx hk)
        | exit id => exact fun i q => hk i (exitTo_sub hc i q)
        | region id ops d =>
          obtain ⟨l, _, e⟩ := hc
          rw [e]
          exact cons hx hk
        | _ => exact hc.elim
      | _ => exact hc.elim
end
end Go.Proofs.Ytfhcpehfmecpjaa
/- The places of a loop over a channel. -/
namespace Go.Proofs.Ytfhcpehfmecpjaa
open Go.Conc

/-- A loop over a channel: the test of its body's operations, the function, the slots of the channel, of the pair and of the flag, the receive's region, the loop's block, its body, the region that calls for the channel, what comes behind the loop. -/
structure Lp where
  ok : Op → Bool
  fn : FuncId
  slot : Nat
  pair : Nat
  flag : Nat
  rid : Nat
  id : Nat
  ops : Array Oper
  body : Code
  r5 : Nat
  o5 : Array Oper
  rest : List Item
def Lp.test (L : Lp) : Code := .cond (.tmp L.flag) .skip (.exit L.id)
def Lp.tail (L : Lp) : List Item := .inLoop (.seq (.region L.rid L.ops false) (.seq L.test L.body)) :: .inBlock L.id :: L.rest
/-- Where the frame stands. -/
inductive At (L : Lp) (fr : Frame) : Prop
  | body (pre : List Item) (ht : fr.todo = pre ++ L.tail) (hp : inPre L.ok [L.slot] pre = true)
  | p1 (o5 : Array Oper) (ht : fr.todo = .inRegion o5 [] :: .code (.block L.id (.loop (.seq (.region L.rid L.ops false) (.seq L.test L.body)))) :: L.rest)
  | p2 (ht : fr.todo = .code (.block L.id (.loop (.seq (.region L.rid L.ops false) (.seq L.test L.body)))) :: L.rest)
  | p3 (ht : fr.todo = .code (.loop (.seq (.region L.rid L.ops false) (.seq L.test L.body))) :: .inBlock L.id :: L.rest)
  | s1 (ht : fr.todo = .code (.seq (.region L.rid L.ops false) (.seq L.test L.body)) :: L.tail)
  | s2 (ht : fr.todo = .code (.region L.rid L.ops false) :: .code (.seq L.test L.body) :: L.tail)
  | s3 (ht : fr.todo = .inRegion L.ops [0, 1] :: .code (.seq L.test L.body) :: L.tail)
  | s4 (v : Value) (ht : fr.todo = .inRegion L.ops [1] :: .code (.seq L.test L.body) :: L.tail) (hv : fr.eval (.tmp L.pair) = .tuple #[v, .bool true])
  | s5 (ht : fr.todo = .inRegion L.ops [] :: .code (.seq L.test L.body) :: L.tail) (hf : fr.eval (.tmp L.flag) = .bool true)
  | s6 (ht : fr.todo = .code (.seq L.test L.body) :: L.tail) (hf : fr.eval (.tmp L.flag) = .bool true)
  | s7 (ht : fr.todo = .code L.test :: .code L.body :: L.tail) (hf : fr.eval (.tmp L.flag) = .bool true)
structure Place (L : Lp) (c : Nat) (fr : Frame) : Prop where
  fn : fr.fn = L.fn
  mode : fr.mode = .run
  chan : fr.tmps[L.slot]? = some (.chan (some c))
  pair : L.pair < fr.tmps.size
  flag : L.flag < fr.tmps.size
  spot : At L fr
section
variable {L : Lp} {c : Nat} {fr fr' : Frame}
theorem Place.to (h : Place L c fr) {k' : List Item} (ha : At L { fr with todo := k' }) : Place L c { fr with todo := k' } := ⟨h.fn, h.mode, h.chan, h.pair, h.flag, ha⟩
/-- A STEP IN THE LOOP STAYS IN THE LOOP, the receive and the look at its flag apart. -/
theorem Place.move (h : Place L c fr) (hs : L.ops.size = 2) (hb : within L.ok [L.slot] [] L.body = true) (hm : Move fr fr') (h3 : ∀ l, l ≠ [] → fr.todo ≠ .inRegion L.ops l :: .code (.seq L.test L.body) :: L.tail) (hc : ∀ ch, fr'.mode ≠ .panicking ch) : Place L c fr' := by
  cases hm with
  | same => exact h
  | raise ch => exact absurd (raise_mode h.mode ch) (hc ch)
  | ret _ ht =>
    exfalso
    cases h.spot with
    | body pre e hp =>
      rw [e] at ht
      cases pre with
      | nil => simp [Lp.tail] at ht
      | cons x pre =>
        rcases ht with ht | ⟨k, ht⟩
        · simp at ht
        · simp only [List.cons_append, List.cons.injEq] at ht
          rw [ht.1] at hp
          simp [inPre, within] at hp
    | p1 o5 e => rw [e] at ht; simp at ht
    | p2 e => rw [e] at ht; simp at ht
    | p3 e => rw [e] at ht; simp at ht
    | s1 e => rw [e] at ht; simp at ht
    | s2 e => rw [e] at ht; simp at ht
    | s3 e => rw [e] at ht; simp at ht
    | s4 v e => rw [e] at ht; simp at ht
    | s5 e => rw [e] at ht; simp at ht
    | s6 e => rw [e] at ht; simp at ht
    | s7 e => rw [e] at ht; simp [Lp.test] at ht
  | fin v _ ht =>
    cases h.spot with
    | body pre e hp =>
      cases pre with
      | nil => rw [e] at ht; simp [Lp.tail] at ht
      | cons x pre =>
        rw [e] at ht
        simp only [List.cons_append, List.cons.injEq] at ht
        obtain ⟨rfl, _⟩ := ht
        obtain ⟨q1, q2, q3, q4, q5⟩ := fin_pre (v := v) e hp
        have hsz : (fr.finish v).tmps.size = fr.tmps.size := by
          unfold Frame.finish
          rw [e]
          dsimp only [List.cons_append]
          split <;> simp
        exact ⟨q4.trans h.fn, q5.trans h.mode, (q3 _ (by simp)).trans h.chan, by rw [hsz]; exact h.pair, by rw [hsz]; exact h.flag, .body _ q1 q2⟩
    | p1 o5 e => rw [e] at ht; simp at ht
    | p2 e => rw [e] at ht; simp at ht
    | p3 e => rw [e] at ht; simp at ht
    | s1 e => rw [e] at ht; simp at ht
    | s2 e => rw [e] at ht; simp at ht
    | s3 e => exact absurd e (h3 _ (by simp))
    | s4 v e => exact absurd e (h3 _ (by simp))
    | s5 e => rw [e] at ht; simp at ht
    | s6 e => rw [e] at ht; simp at ht
    | s7 e => rw [e] at ht; simp at ht
  | to k' _ hk =>
    refine h.to ?_
    have hk0 := hk
    unfold Ctl at hk
    cases h.spot with
    | body pre e hp =>
      cases pre with
      | nil =>
        rw [e] at hk
        exact .s1 hk
      | cons x pre =>
        obtain ⟨pre', e', hp'⟩ := ctl_pre (ok := L.ok) (sl := [L.slot]) e hp hk0
        exact .body pre' e' hp'
    | p1 o5 e => rw [e] at hk; exact .p2 hk
    | p2 e => rw [e] at hk; exact .p3 hk
    | p3 e => rw [e] at hk; exact .s1 hk
    | s1 e => rw [e] at hk; exact .s2 hk
    | s2 e =>
      rw [e] at hk
      obtain ⟨l, hl, e'⟩ := hk
      rw [hl rfl, hs] at e'
      exact .s3 e'
    | s3 e => exact absurd e (h3 _ (by simp))
    | s4 v e => exact absurd e (h3 _ (by simp))
    | s5 e hf => rw [e] at hk; exact .s6 hk hf
    | s6 e hf => rw [e] at hk; exact .s7 hk hf
    | s7 e hf =>
      rw [e] at hk
      obtain ⟨v, hv, e'⟩ := hk
      rw [hf] at hv
      cases hv
      exact .body [.code .skip, .code L.body] e' (by simp [inPre, within, blocks, hb])
/-- What is written into a slot of the receive's region. -/
theorem Place.fin (h : Place L c fr) {i d : Nat} {r : List Nat} {k : List Item} (v : Value) (ht : fr.todo = .inRegion L.ops (i :: r) :: k) (hd : (L.ops[i]?).bind (·.dst) = some d) (hne : d ≠ L.slot) (hl : d < fr.tmps.size) (ha : (fr.finish v).todo = .inRegion L.ops r :: k → (fr.finish v).eval (.tmp d) = v → At L (fr.finish v)) : Place L c (fr.finish v) := by
  have hf : fr.finish v = { fr with tmps := fr.tmps.setIfInBounds d v, todo := .inRegion L.ops r :: k } := by
    unfold Frame.finish
    rw [ht]
    simp only [hd]
  have ha' := ha (by rw [hf]) (by rw [hf]; simp [Frame.eval, hl])
  refine ⟨?_, ?_, ?_, ?_, ?_, ha'⟩
  · rw [hf]; exact h.fn
  · rw [hf]; exact h.mode
  · rw [hf]
    show (fr.tmps.setIfInBounds d v)[L.slot]? = _
    rw [Array.getElem?_setIfInBounds_ne hne]
    exact h.chan
  · rw [hf]; simpa using h.pair
  · rw [hf]; simpa using h.flag
/-- A value has been taken. -/
theorem Place.take (h : Place L c fr) (e : fr.todo = .inRegion L.ops [0, 1] :: .code (.seq L.test L.body) :: L.tail) (hd : (L.ops[0]?).bind (·.dst) = some L.pair) (hne : L.pair ≠ L.slot) (v : Value) : Place L c (fr.finish (.tuple #[v, .bool true])) :=
  h.fin _ e hd hne h.pair (fun a b => .s4 v a b)
/-- The look at the flag. -/
theorem Place.look (h : Place L c fr) (e : fr.todo = .inRegion L.ops [1] :: .code (.seq L.test L.body) :: L.tail) (hd : (L.ops[1]?).bind (·.dst) = some L.flag) (hne : L.flag ≠ L.slot) : Place L c (fr.finish (.bool true)) :=
  h.fin _ e hd hne h.flag (fun a b => .s5 a b)
theorem look_step {P : Program} {main : Bool} {cs : List Frame} {w : World} {v : Value} {o : Oper} {r : List Nat} {k : List Item} (hr : fr.roundOf = none) (hkd : fr.kind = .normal) (hm : fr.mode = .run) (ht : fr.todo = .inRegion L.ops (1 :: r) :: k) (ho : L.ops[1]? = some o) (hop : o.op = .extract (.tmp L.pair) 1)
    (hw : Region.wanted o (yielded L.ops fr.tmps) = true) (hv : fr.eval (.tmp L.pair) = .tuple #[v, .bool true]) : stepG P main (Gr fr cs) w = .go (Gr (fr.finish (.bool true)) cs) w #[] := by
  have e : (execOp fr.eval o).runT P w #[] = (.ok (.value (.bool true)) w, #[]) := by
    unfold execOp
    rw [hop]
    simp only [hv]
    rfl
  rw [step_op hr hm ht ho hw]
  simp [-Sem.runT_eq, stepG.apply, e, GStep.after, hkd, seen]
end
end Go.Proofs.Ytfhcpehfmecpjaa
