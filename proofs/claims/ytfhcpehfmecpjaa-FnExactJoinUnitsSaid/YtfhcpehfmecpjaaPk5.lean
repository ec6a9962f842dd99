/- Texts of ours, laid one behind the other: SeZ, SfA, SfB, SfC, SfD, SfE, SfF, SfG, SfH, SgA, SgB. -/
import Derived.Test.YtfhcpehfmecpjaaPk4
set_option linter.unusedVariables false
set_option linter.unusedSimpArgs false
/- A loop over a channel somewhere among the frames: an ordinary step leaves it there. -/
namespace Go.Proofs.Ytfhcpehfmecpjaa
open Go.Conc

/-- What the code says of the loop. -/
structure LpOk (P : Program) (S S' : List FuncId) (L : Lp) : Prop where
  ok : L.ok = okOp P S'
  sub : ∀ y ∈ S', y ∈ S
  size : L.ops.size = 2
  body : within L.ok [L.slot] [] L.body = true
  op0 : ∃ o, L.ops[0]? = some o ∧ okOp P S o.op = false ∧ o.dst = some L.pair ∧ ∀ y, Region.wanted o y = true
  op1 : ∃ o, L.ops[1]? = some o ∧ o.op = .extract (.tmp L.pair) 1 ∧ o.dst = some L.flag ∧ ∀ y, Region.wanted o y = true
  pair : L.pair ≠ L.slot
  flag : L.flag ≠ L.slot
/-- The loop's frame runs, or waits for a call made inside its body: then those above it are ordinary in the strict sense. -/
inductive Held (S' : List FuncId) (Q : Frame → Prop) (L : Lp) (c : Nat) (fr : Frame) (tops : List Frame) : Prop
  | top (h : Place L c fr) (hq : ∀ t ∈ tops, Q t)
  | low (above : List Frame) (t : Frame) (below : List Frame) (pre : List Item) (ops : Array Oper) (i : Nat) (r : List Nat) (e : tops = above ++ t :: below) (h : Place L c t) (ht : t.todo = .inRegion ops (i :: r) :: pre ++ L.tail) (hp : inPre L.ok [L.slot] (.inRegion ops (i :: r) :: pre) = true) (hs : Ord L.ok S' fr) (ha : ∀ x ∈ above, Ord L.ok S' x) (hq : ∀ t ∈ below, Q t)
section
variable {ok : Op → Bool} {S S' : List FuncId} {Q : Frame → Prop} {T : Tables} {f : Array Func} {L : Lp} {c : Nat} {fr fr' : Frame} {tops tops' : List Frame} {w w' : World}
theorem Held.ne (h : Held S' Q L c fr tops) (hm : fr.mode ≠ .run) : tops ≠ [] := by
  cases h with
  | top h hq => exact absurd h.mode hm
  | low above t below pre ops i r e h ht hp hs ha hq => rw [e]; simp
/-- AN ORDINARY STEP LEAVES THE LOOP WHERE IT IS. -/
theorem Held.near (h : Held S' Q L c fr tops) (hL : LpOk ⟨T, f⟩ S S' L) (ho : Ord ok S fr) (hsp : ¬ Spec ⟨T, f⟩ S fr tops) (hn : Near ⟨T, f⟩ S fr tops fr' tops') {X : List Frame} {es : Array Event} (hst : stepG ⟨T, f⟩ true (Gr fr (tops ++ X)) w = .go (Gr fr' (tops' ++ X)) w' es)
    (hF : ∀ x ∈ S', Fine L.ok f f x) (hc : ∀ ch, fr.mode ≠ .panicking ch) (hc' : ∀ ch, fr'.mode ≠ .panicking ch) : Held S' Q L c fr' tops' := by
  obtain ⟨o0, a1, a2, a3, a4⟩ := hL.op0
  obtain ⟨o1, b1, b2, b3, b4⟩ := hL.op1
  cases h with
  | top h hq =>
    have n3 : fr.todo ≠ .inRegion L.ops [0, 1] :: .code (.seq L.test L.body) :: L.tail := fun e => hsp (.inr ⟨h.mode, _, _, _, _, o0, e, a1, a4 _, a2⟩)
    by_cases h4 : ∃ v, fr.todo = .inRegion L.ops [1] :: .code (.seq L.test L.body) :: L.tail ∧ fr.eval (.tmp L.pair) = .tuple #[v, .bool true]
    · obtain ⟨v, e4, ev⟩ := h4
      rw [look_step (L := L) (P := ⟨T, f⟩) (main := true) (cs := tops ++ X) (w := w) ho.round ho.kind h.mode e4 b1 b2 (b4 _) ev] at hst
      injection hst with q1 q2 q3
      injection q1 with q4 q5
      subst q4
      have q6 := List.append_cancel_right q5
      subst q6
      exact .top (h.look e4 (by rw [b1]; exact b3) hL.flag) hq
    · have at4 : ∀ l, l ≠ [] → (∃ pre, fr.todo = pre ++ L.tail ∧ inPre L.ok [L.slot] pre = true) ∨ fr.todo ≠ .inRegion L.ops l :: .code (.seq L.test L.body) :: L.tail := by
        intro l hl
        cases h.spot with
        | body pre e hp => exact .inl ⟨pre, e, hp⟩
        | p1 o5 e =>
          refine .inr fun q => ?_
          rw [e] at q
          injection q with q _
          injection q with _ q
          exact hl q.symm
        | p2 e => rw [e]; simp
        | p3 e => rw [e]; simp
        | s1 e => rw [e]; simp
        | s2 e => rw [e]; simp
        | s3 e => exact absurd e n3
        | s4 v e ev => exact absurd ⟨v, e, ev⟩ h4
        | s5 e => rw [e]; right; intro q; simp at q; exact hl q
        | s6 e => rw [e]; simp
        | s7 e => rw [e]; simp
      have no : ∀ l, l ≠ [] → fr.todo ≠ .inRegion L.ops l :: .code (.seq L.test L.body) :: L.tail := by
        intro l hl e
        rcases at4 l hl with ⟨pre, e', hp⟩ | q
        · rw [e] at e'
          have : pre = [.inRegion L.ops l, .code (.seq L.test L.body)] := by
            have := List.append_cancel_right (as := [Item.inRegion L.ops l, .code (.seq L.test L.body)]) (bs := L.tail) (cs := pre) e'
            exact this.symm
          subst this
          simp [inPre, within, blocks, Lp.test] at hp
        · exact q e
      cases hn with
      | move hm => exact .top (h.move hL.size hL.body hm no hc') hq
      | enter x as hm ht hi hk hx =>
        cases h.spot with
        | body pre e hp =>
          cases pre with
          | nil => rw [e] at ht; simp [Lp.tail] at ht
          | cons z pre =>
            have ht' := ht
            rw [e] at ht'
            simp only [List.cons_append, List.cons.injEq] at ht'
            obtain ⟨rfl, _⟩ := ht'
            have hop := (Bool.and_eq_true_iff.1 (Array.all_eq_true_iff_forall_mem.1 (Bool.and_eq_true_iff.1 hp).1 _ (Array.mem_of_getElem? hi))).1
            have hy := hx S' hL.sub (by rw [← hL.ok]; exact hop)
            exact .low [] fr tops pre _ _ _ rfl h e hp (enter_ord hy (hF _ hy)) (fun _ q => nomatch q) hq
        | p1 o5 e => rw [e] at ht; simp at ht
        | p2 e => rw [e] at ht; simp at ht
        | p3 e => rw [e] at ht; simp at ht
        | s1 e => rw [e] at ht; simp at ht
        | s2 e => rw [e] at ht; simp at ht
        | s3 e => exact absurd e n3
        | s4 v e ev => exact absurd ⟨v, e, ev⟩ h4
        | s5 e => rw [e] at ht; simp at ht
        | s6 e => rw [e] at ht; simp at ht
        | s7 e => rw [e] at ht; simp at ht
      | back v hm => rw [h.mode] at hm; cases hm
      | up ch hm => exact absurd hm (hc ch)
  | low above t below pre ops i r e h ht hp hs ha hq =>
    cases hn with
    | move hm => exact .low above t below pre ops i r e h ht hp (hs.move hm) ha hq
    | enter x as hm ht' hi hk hx =>
      have hit := hs.items _ (by rw [ht']; exact .head _)
      have hop := Array.all_eq_true_iff_forall_mem.1 hit _ (Array.mem_of_getElem? hi)
      have hy := hx S' hL.sub (by rw [← hL.ok]; exact hop)
      exact .low (fr :: above) t below pre ops i r (by rw [e]; rfl) h ht hp (enter_ord hy (hF _ hy)) (fun y q => by
        rcases List.mem_cons.1 q with rfl | q
        · exact hs
        · exact ha y q) hq
    | back v hm =>
      cases above with
      | nil =>
        simp only [List.nil_append, List.cons.injEq] at e
        obtain ⟨rfl, rfl⟩ := e
        obtain ⟨q1, q2, q3, q4, q5⟩ := fin_pre (v := v) ht hp
        refine .top (h.move hL.size hL.body (.fin v h.mode ht) (fun l hl q => ?_) (fun ch => by rw [q5, h.mode]; simp)) hq
        rw [ht] at q
        have : (.inRegion ops (i :: r) :: pre : List Item) = [.inRegion L.ops l, .code (.seq L.test L.body)] := List.append_cancel_right (as := _ :: pre) (bs := L.tail) (cs := [_, _]) q
        rw [this] at hp
        simp [inPre, within, blocks, Lp.test] at hp
      | cons a above =>
        simp only [List.cons_append, List.cons.injEq] at e
        obtain ⟨rfl, e⟩ := e
        exact .low above t below pre ops i r e h ht hp ((ha _ (.head _)).finish v) (fun y q => ha y (.tail _ q)) hq
    | up ch hm => exact absurd hm (hc ch)
theorem okOp_mono {P : Program} (hsub : ∀ y ∈ S', y ∈ S) {o : Op} (h : okOp P S' o = true) : okOp P S o = true := by
  unfold okOp at h ⊢
  split at h
  all_goals first
    | rfl
    | exact h
    | (simp only [List.contains_iff_mem] at h ⊢; exact hsub _ h)
    | (cases h; done)
/-- WHERE ORDINARY STEPS END WHILE THE LOOP IS THERE: at the receive. -/
theorem Held.spec (h : Held S' Q L c fr tops) (hL : LpOk ⟨T, f⟩ S S' L) (hsp : Spec ⟨T, f⟩ S fr tops) : Place L c fr ∧ fr.todo = .inRegion L.ops [0, 1] :: .code (.seq L.test L.body) :: L.tail ∧ ∀ t ∈ tops, Q t := by
  obtain ⟨o1, b1, b2, b3, b4⟩ := hL.op1
  rcases hsp with ⟨h1, h2⟩ | ⟨hm, ops', i', r', k', o, ht', ho', _, hk⟩
  · exact absurd h1 (h.ne h2)
  · have no : L.ok o.op = true → False := fun q => by
      rw [hL.ok] at q
      rw [okOp_mono hL.sub q] at hk
      cases hk
    cases h with
    | low above t below pre ops i r e h ht hp hs ha hq =>
      exfalso
      have hit := hs.items _ (by rw [ht']; exact .head _)
      exact no (Array.all_eq_true_iff_forall_mem.1 hit _ (Array.mem_of_getElem? ho'))
    | top h hq =>
      refine ⟨h, ?_, hq⟩
      cases h.spot with
      | body pre e hp =>
        exfalso
        cases pre with
        | nil => rw [e] at ht'; simp [Lp.tail] at ht'
        | cons z pre =>
          rw [e] at ht'
          simp only [List.cons_append, List.cons.injEq] at ht'
          obtain ⟨rfl, _⟩ := ht'
          exact no (Bool.and_eq_true_iff.1 (Array.all_eq_true_iff_forall_mem.1 (Bool.and_eq_true_iff.1 hp).1 _ (Array.mem_of_getElem? ho'))).1
      | p1 o5 e => rw [e] at ht'; simp at ht'
      | p2 e => rw [e] at ht'; simp at ht'
      | p3 e => rw [e] at ht'; simp at ht'
      | s1 e => rw [e] at ht'; simp at ht'
      | s2 e => rw [e] at ht'; simp at ht'
      | s3 e => exact e
      | s4 v e ev =>
        exfalso
        rw [e] at ht'
        simp only [List.cons.injEq, Item.inRegion.injEq] at ht'
        obtain ⟨⟨rfl, rfl, _⟩, _⟩ := ht'
        rw [b1] at ho'
        cases ho'
        rw [b2] at hk
        simp [okOp] at hk
      | s5 e => rw [e] at ht'; simp at ht'
      | s6 e => rw [e] at ht'; simp at ht'
      | s7 e => rw [e] at ht'; simp at ht'
end
end Go.Proofs.Ytfhcpehfmecpjaa
/- Frames while no channel is open. -/
namespace Go.Proofs.Ytfhcpehfmecpjaa
open Go.Conc

def Lp.loop (L : Lp) : Code := .block L.id (.loop (.seq (.region L.rid L.ops false) (.seq L.test L.body)))
def Lp.entry (L : Lp) : Code := .seq (.region L.r5 L.o5 false) L.loop
def Lp.tl (L : Lp) (k : List Item) : List Item := .inLoop (.seq (.region L.rid L.ops false) (.seq L.test L.body)) :: .inBlock L.id :: k
/-- Code whose operations pass the test, but in the loops of Ls, which come with the call that makes their channel. -/
def Calm (ok : Op → Bool) (Ls : List Lp) : Code → Prop
  | .skip | .ret | .exit _ => True
  | .region _ ops _ => ops.all (fun o => ok o.op) = true
  | .seq a b => (∃ L ∈ Ls, Code.seq a b = L.entry) ∨ (Calm ok Ls a ∧ Calm ok Ls b)
  | .cond _ a b => Calm ok Ls a ∧ Calm ok Ls b
  | .block _ c => Calm ok Ls c
  | .loop c => Calm ok Ls c
  | .scope c => Calm ok Ls c
  | _ => False
def CalmI (ok : Op → Bool) (Ls : List Lp) : Item → Prop
  | .code c => Calm ok Ls c
  | .inBlock _ => True
  | .inLoop c => Calm ok Ls c
  | .inScope c => Calm ok Ls c
  | .inRegion ops _ => ops.all (fun o => ok o.op) = true
  | _ => False
theorem calm_of {ok : Op → Bool} {Ls : List Lp} : ∀ {c : Code}, okCode ok c = true → Calm ok Ls c
  | .skip, _ => trivial
  | .ret, _ => trivial
  | .exit _, _ => trivial
  | .region _ _ _, h => h
  | .seq a b, h => by simp only [okCode, Bool.and_eq_true] at h; exact .inr ⟨calm_of h.1, calm_of h.2⟩
  | .cond _ a b, h => by simp only [okCode, Bool.and_eq_true] at h; exact ⟨calm_of h.1, calm_of h.2⟩
  | .block _ c, h => calm_of (c := c) h
  | .loop c, h => calm_of (c := c) h
  | .scope c, h => calm_of (c := c) h
/-- Where a frame may stand. -/
inductive Idle (ok : Op → Bool) (Ls : List Lp) (fr : Frame) : Prop
  | plain (h : ∀ i ∈ fr.todo, CalmI ok Ls i)
  | e1 (L : Lp) (hL : L ∈ Ls) (k : List Item) (hk : ∀ i ∈ k, CalmI ok Ls i) (ht : fr.todo = .code (.region L.r5 L.o5 false) :: .code L.loop :: k)
  | e2 (L : Lp) (hL : L ∈ Ls) (k : List Item) (hk : ∀ i ∈ k, CalmI ok Ls i) (j : Nat) (hj : j < L.o5.size) (ht : fr.todo = .inRegion L.o5 ((List.range L.o5.size).drop j) :: .code L.loop :: k)
  | o4 (L : Lp) (hL : L ∈ Ls) (k : List Item) (hk : ∀ i ∈ k, CalmI ok Ls i) (z : Value) (ht : fr.todo = .inRegion L.ops [1] :: .code (.seq L.test L.body) :: L.tl k) (hv : fr.eval (.tmp L.pair) = .tuple #[z, .bool false]) (hl : L.flag < fr.tmps.size)
  | o5 (L : Lp) (hL : L ∈ Ls) (k : List Item) (hk : ∀ i ∈ k, CalmI ok Ls i) (ht : fr.todo = .inRegion L.ops [] :: .code (.seq L.test L.body) :: L.tl k) (hf : fr.eval (.tmp L.flag) = .bool false)
  | o6 (L : Lp) (hL : L ∈ Ls) (k : List Item) (hk : ∀ i ∈ k, CalmI ok Ls i) (ht : fr.todo = .code (.seq L.test L.body) :: L.tl k) (hf : fr.eval (.tmp L.flag) = .bool false)
  | o7 (L : Lp) (hL : L ∈ Ls) (k : List Item) (hk : ∀ i ∈ k, CalmI ok Ls i) (ht : fr.todo = .code L.test :: .code L.body :: L.tl k) (hf : fr.eval (.tmp L.flag) = .bool false)
  | o8 (L : Lp) (hL : L ∈ Ls) (k : List Item) (hk : ∀ i ∈ k, CalmI ok Ls i) (ht : fr.todo = .code (.exit L.id) :: .code L.body :: L.tl k)
section
variable {ok : Op → Bool} {Ls : List Lp} {fr fr' : Frame}
/-- A move of control of a frame that stands plainly. -/
theorem calm_ctl {k' : List Item} (h : ∀ i ∈ fr.todo, CalmI ok Ls i) (hc : Ctl fr k') : (∀ i ∈ k', CalmI ok Ls i) ∨ ∃ L ∈ Ls, ∃ k, (∀ i ∈ k, CalmI ok Ls i) ∧ k' = .code (.region L.r5 L.o5 false) :: .code L.loop :: k := by
  unfold Ctl at hc
  have cons : ∀ {a : Item} {k : List Item}, CalmI ok Ls a → (∀ i ∈ k, CalmI ok Ls i) → ∀ i ∈ a :: k, CalmI ok Ls i := by
    intro a k ha hk i hi
    rcases List.mem_cons.1 hi with rfl | hi
    · exact ha
    · exact hk i hi
  cases ht : fr.todo with
  | nil => rw [ht] at hc; exact hc.elim
  | cons x k =>
    rw [ht] at hc h
    have hx := h x (.head _)
    have hk : ∀ i ∈ k, CalmI ok Ls i := fun i q => h i (.tail _ q)
    cases x with
    | inBlock id => exact .inl (hc ▸ hk)
    | inScope c => exact .inl (hc ▸ hk)
    | inLoop c => exact .inl (hc ▸ cons (a := .code c) hx (cons hx hk))
    | inRegion ops l =>
      cases l with
      | nil => exact .inl (hc ▸ hk)
      | cons i r => exact hc.elim
    | code c =>
      cases c with
      | skip => exact .inl (hc ▸ hk)
      | seq a b =>
        rcases hx with ⟨L, hL, e⟩ | ⟨h1, h2⟩
        · injection e with e1 e2
          subst e1 e2
          exact .inr ⟨L, hL, k, hk, hc⟩
        · exact .inl (hc ▸ cons (a := .code a) h1 (cons (a := .code b) h2 hk))
      | cond c a b =>
        obtain ⟨v, _, e⟩ := hc
        rw [e]
        exact .inl (cons (by cases v; exact hx.2; exact hx.1) hk)
      | block id c => exact .inl (hc ▸ cons (a := .code c) hx (cons (a := .inBlock id) trivial hk))
      | loop c => exact .inl (hc ▸ cons (a := .code c) hx (cons (a := .inLoop c) hx hk))
      | scope c => exact .inl (hc ▸ cons (a := .code c) hx (cons (a := .inScope c) hx hk))
      | exit id => exact .inl (fun i q => hk i (exitTo_sub hc i q))
      | region id ops d =>
        obtain ⟨l, _, e⟩ := hc
        rw [e]
        exact .inl (cons hx hk)
      | _ => exact hc.elim
    | _ => exact hc.elim
end
end Go.Proofs.Ytfhcpehfmecpjaa
/- Frames while no channel is open: an ordinary step leaves them so. -/
namespace Go.Proofs.Ytfhcpehfmecpjaa
open Go.Conc

/-- What the code says of a loop and of the call ahead of it. -/
structure LqOk (P : Program) (S : List FuncId) (L : Lp) : Prop where
  pos : 0 < L.o5.size
  last : ∃ o, L.o5[L.o5.size - 1]? = some o ∧ okOp P S o.op = false ∧ ∀ y, Region.wanted o y = true
  op1 : ∃ o, L.ops[1]? = some o ∧ o.op = .extract (.tmp L.pair) 1 ∧ o.dst = some L.flag ∧ ∀ y, Region.wanted o y = true
/-- A frame that waits for a call. -/
inductive IdleT (ok : Op → Bool) (Ls : List Lp) (fr : Frame) : Prop
  | plain (h : ∀ i ∈ fr.todo, CalmI ok Ls i)
  | e2 (L : Lp) (hL : L ∈ Ls) (k : List Item) (hk : ∀ i ∈ k, CalmI ok Ls i) (j : Nat) (hj : j + 1 < L.o5.size) (ht : fr.todo = .inRegion L.o5 ((List.range L.o5.size).drop j) :: .code L.loop :: k)
section
variable {ok : Op → Bool} {Ls : List Lp} {S : List FuncId} {P : Program} {fr fr' : Frame} {tops tops' : List Frame} {w w' : World}
theorem Idle.as (h : Idle ok Ls fr) (h1 : fr'.todo = fr.todo) (h2 : fr'.tmps = fr.tmps) : Idle ok Ls fr' := by
  have h3 : ∀ t, fr'.eval (.tmp t) = fr.eval (.tmp t) := fun t => by simp [Frame.eval, h2]
  cases h with
  | plain h => exact .plain (h1 ▸ h)
  | e1 L hL k hk ht => exact .e1 L hL k hk (h1.trans ht)
  | e2 L hL k hk j hj ht => exact .e2 L hL k hk j hj (h1.trans ht)
  | o4 L hL k hk z ht hv hl => exact .o4 L hL k hk z (h1.trans ht) ((h3 _).trans hv) (h2 ▸ hl)
  | o5 L hL k hk ht hf => exact .o5 L hL k hk (h1.trans ht) ((h3 _).trans hf)
  | o6 L hL k hk ht hf => exact .o6 L hL k hk (h1.trans ht) ((h3 _).trans hf)
  | o7 L hL k hk ht hf => exact .o7 L hL k hk (h1.trans ht) ((h3 _).trans hf)
  | o8 L hL k hk ht => exact .o8 L hL k hk (h1.trans ht)
theorem drop_at {n j : Nat} (h : j < n) : (List.range n).drop j = j :: (List.range n).drop (j + 1) := by
  rw [List.drop_eq_getElem_cons (by simpa using h)]
  simp
theorem IdleT.fin (h : IdleT ok Ls fr) (v : Value) (hm : fr.mode = .run) {ops : Array Oper} {i : Nat} {r : List Nat} {k : List Item} (ht : fr.todo = .inRegion ops (i :: r) :: k) : Idle ok Ls (fr.finish v) := by
  have hf : (fr.finish v).todo = .inRegion ops r :: k := by
    unfold Frame.finish
    rw [ht]
  cases h with
  | plain h =>
    refine .plain (fun x hx => ?_)
    rw [hf] at hx
    rw [ht] at h
    rcases List.mem_cons.1 hx with rfl | hx
    · exact h (.inRegion ops (i :: r)) (.head _)
    · exact h x (.tail _ hx)
  | e2 L hL k' hk j hj e =>
    rw [e, drop_at (by omega)] at ht
    simp only [List.cons.injEq, Item.inRegion.injEq] at ht
    obtain ⟨⟨rfl, rfl, rfl⟩, rfl⟩ := ht
    exact .e2 L hL k' hk _ hj hf
theorem unlook_step {main : Bool} {cs : List Frame} {v : Value} {L : Lp} {o : Oper} {r : List Nat} {k : List Item} (hr : fr.roundOf = none) (hkd : fr.kind = .normal) (hm : fr.mode = .run) (ht : fr.todo = .inRegion L.ops (1 :: r) :: k) (ho : L.ops[1]? = some o) (hop : o.op = .extract (.tmp L.pair) 1)
    (hw : Region.wanted o (yielded L.ops fr.tmps) = true) (hv : fr.eval (.tmp L.pair) = .tuple #[v, .bool false]) : stepG P main (Gr fr cs) w = .go (Gr (fr.finish (.bool false)) cs) w #[] := by
  have e : (execOp fr.eval o).runT P w #[] = (.ok (.value (.bool false)) w, #[]) := by
    unfold execOp
    rw [hop]
    simp only [hv]
    rfl
  rw [step_op hr hm ht ho hw]
  simp [-Sem.runT_eq, stepG.apply, e, GStep.after, hkd, seen]
/-- The frame that runs. -/
theorem Idle.move (h : Idle ok Ls fr) (hLs : ∀ L ∈ Ls, LqOk P S L) (hsp : ¬ Spec P S fr tops) (hm : Move fr fr') (h4 : ∀ L ∈ Ls, ∀ k z, fr.todo = .inRegion L.ops [1] :: .code (.seq L.test L.body) :: L.tl k → fr.eval (.tmp L.pair) = .tuple #[z, .bool false] → fr' = fr.finish (.bool false)) : Idle ok Ls fr' := by
  cases hm with
  | same => exact h
  | ret _ _ => exact h.as rfl rfl
  | raise ch => unfold Frame.raise; split <;> exact h.as rfl rfl
  | fin v hmd ht =>
    cases h with
    | plain h => exact (IdleT.plain h).fin v hmd ht
    | e1 L hL k hk e => rw [e] at ht; simp at ht
    | e2 L hL k hk j hj e =>
      rcases Nat.lt_or_ge (j + 1) L.o5.size with hlt | hge
      · exact (IdleT.e2 L hL k hk j hlt e).fin v hmd ht
      · exfalso
        obtain ⟨o, ho, hok, hw⟩ := (hLs L hL).last
        rw [drop_at hj] at e
        exact hsp (.inr ⟨hmd, _, _, _, _, o, e, by rw [← ho]; congr 1; omega, hw _, hok⟩)
    | o4 L hL k hk z e hv hl =>
      rw [h4 L hL k z e hv]
      obtain ⟨o, ho, _, hd, _⟩ := (hLs L hL).op1
      have hf : fr.finish (.bool false) = { fr with tmps := fr.tmps.setIfInBounds L.flag (.bool false), todo := .inRegion L.ops [] :: .code (.seq L.test L.body) :: L.tl k } := by
        unfold Frame.finish
        rw [e]
        simp [ho, hd]
      exact .o5 L hL k hk (by rw [hf]) (by rw [hf]; simp [Frame.eval, hl])
    | o5 L hL k hk e hf => rw [e] at ht; simp at ht
    | o6 L hL k hk e hf => rw [e] at ht; simp at ht
    | o7 L hL k hk e hf => rw [e] at ht; simp at ht
    | o8 L hL k hk e => rw [e] at ht; simp at ht
  | to k' hmd hc =>
    have hc0 := hc
    unfold Ctl at hc
    cases h with
    | plain h =>
      rcases calm_ctl h hc0 with q | ⟨L, hL, k, hk, e⟩
      · exact .plain q
      · exact .e1 L hL k hk e
    | e1 L hL k hk e =>
      rw [e] at hc
      obtain ⟨l, hl, e'⟩ := hc
      rw [hl rfl] at e'
      exact .e2 L hL k hk 0 (hLs L hL).pos e'
    | e2 L hL k hk j hj e => rw [e, drop_at hj] at hc; exact hc.elim
    | o4 L hL k hk z e hv hl => rw [e] at hc; exact hc.elim
    | o5 L hL k hk e hf => rw [e] at hc; exact .o6 L hL k hk hc hf
    | o6 L hL k hk e hf => rw [e] at hc; exact .o7 L hL k hk hc hf
    | o7 L hL k hk e hf =>
      rw [e] at hc
      obtain ⟨v, hv, e'⟩ := hc
      rw [hf] at hv
      cases hv
      exact .o8 L hL k hk e'
    | o8 L hL k hk e =>
      rw [e] at hc
      have : exitTo L.id (.code L.body :: L.tl k) = some k' := hc
      simp [exitTo, Lp.tl] at this
      subst this
      exact .plain hk
/-- A frame below: it waits for a call. -/
structure Waits (ok : Op → Bool) (Ls : List Lp) (t : Frame) : Prop where
  idle : IdleT ok Ls t
  mode : t.mode = .run
  spot : ∃ ops i r k, t.todo = .inRegion ops (i :: r) :: k
/-- AN ORDINARY STEP WHILE NO CHANNEL IS OPEN. -/
theorem Idle.near {okk : Op → Bool} (h : Idle ok Ls fr) (ht : ∀ t ∈ tops, Waits ok Ls t) (hLs : ∀ L ∈ Ls, LqOk P S L) (hsp : ¬ Spec P S fr tops) (ho : Ord okk S fr) (hn : Near P S fr tops fr' tops') {X : List Frame} {es : Array Event} (hst : stepG P true (Gr fr (tops ++ X)) w = .go (Gr fr' (tops' ++ X)) w' es)
    (hent : ∀ x ∈ S, ∀ as, Idle ok Ls (Frame.enter P x as .normal)) (hc : ∀ ch, fr.mode ≠ .panicking ch) : Idle ok Ls fr' ∧ ∀ t ∈ tops', Waits ok Ls t := by
  have o4 : ∀ L ∈ Ls, ∀ k z, fr.mode = .run → fr.todo = .inRegion L.ops [1] :: .code (.seq L.test L.body) :: L.tl k → fr.eval (.tmp L.pair) = .tuple #[z, .bool false] → fr' = fr.finish (.bool false) ∧ tops' ++ X = tops ++ X := by
    intro L hL k z hm e hv
    obtain ⟨o, b1, b2, _, b4⟩ := (hLs L hL).op1
    rw [unlook_step (P := P) (main := true) (cs := tops ++ X) (w := w) ho.round ho.kind hm e b1 b2 (b4 _) hv] at hst
    injection hst with q1 q2 q3
    injection q1 with q4 q5
    exact ⟨q4.symm, q5.symm⟩
  cases hn with
  | move hm =>
    by_cases hmd : fr.mode = .run
    · exact ⟨h.move hLs hsp hm (fun L hL k z e hv => (o4 L hL k z hmd e hv).1), ht⟩
    · refine ⟨?_, ht⟩
      cases hm with
      | same => exact h
      | raise ch => unfold Frame.raise; split <;> exact h.as rfl rfl
      | ret q _ => exact absurd q hmd
      | fin v q _ => exact absurd q hmd
      | to k' q _ => exact absurd q hmd
  | enter x as hm e hi hk hx =>
    refine ⟨hent x (hx S (fun _ q => q) hk) as, fun t hq => ?_⟩
    rcases List.mem_cons.1 hq with rfl | hq
    · refine ⟨?_, hm, _, _, _, _, e⟩
      cases h with
      | plain h => exact .plain h
      | e1 L hL k hk' e' => rw [e'] at e; simp at e
      | e2 L hL k hk' j hj e' =>
        refine .e2 L hL k hk' j ?_ e'
        rcases Nat.lt_or_ge (j + 1) L.o5.size with hlt | hge
        · exact hlt
        · exfalso
          obtain ⟨o, q1, q2, _⟩ := (hLs L hL).last
          rw [e', drop_at hj] at e
          simp only [List.cons.injEq, Item.inRegion.injEq] at e
          obtain ⟨⟨rfl, rfl, _⟩, _⟩ := e
          have : L.o5.size - 1 = j := by omega
          rw [this, hi] at q1
          cases q1
          rw [q2] at hk
          cases hk
      | o4 L hL k hk' z e' hv hl =>
        exfalso
        obtain ⟨_, q⟩ := o4 L hL k z hm e' hv
        have := congrArg List.length q
        simp at this
      | o5 L hL k hk' e' hf => rw [e'] at e; simp at e
      | o6 L hL k hk' e' hf => rw [e'] at e; simp at e
      | o7 L hL k hk' e' hf => rw [e'] at e; simp at e
      | o8 L hL k hk' e' => rw [e'] at e; simp at e
    · exact ht t hq
  | back v hm =>
    have hw := ht _ (.head _)
    obtain ⟨ops, i, r, k, e⟩ := hw.spot
    exact ⟨hw.idle.fin v hw.mode e, fun t q => ht t (.tail _ q)⟩
  | up ch hm => exact absurd hm (hc ch)
end
end Go.Proofs.Ytfhcpehfmecpjaa
/- From idle to held and back: the call that makes the channel, the receive that finds it closed. -/
namespace Go.Proofs.Ytfhcpehfmecpjaa
open Go.Conc

section
variable {Ls : List Lp} {S : List FuncId} {P : Program} {fr fr' : Frame} {tops tops' : List Frame} {w w' : World}
/-- WHERE ORDINARY STEPS END WHILE NO CHANNEL IS OPEN: at the call that makes one. -/
theorem Idle.spec (h : Idle (okOp P S) Ls fr) (hLs : ∀ L ∈ Ls, LqOk P S L) (hm : fr.mode = .run) (hsp : Spec P S fr tops) (h5 : ∀ L ∈ Ls, ∀ j o, j + 1 < L.o5.size → L.o5[j]? = some o → okOp P S o.op = true) :
    ∃ L ∈ Ls, ∃ k, (∀ i ∈ k, CalmI (okOp P S) Ls i) ∧ fr.todo = .inRegion L.o5 [L.o5.size - 1] :: .code L.loop :: k := by
  rcases hsp with ⟨_, h2⟩ | ⟨_, ops', i', r', k', o, ht', ho', _, hk⟩
  · exact absurd hm h2
  · cases h with
    | plain h =>
      exfalso
      have := h _ (by rw [ht']; exact .head _)
      have := Array.all_eq_true_iff_forall_mem.1 this _ (Array.mem_of_getElem? ho')
      rw [hk] at this
      cases this
    | e1 L hL k hk' e => rw [e] at ht'; simp at ht'
    | e2 L hL k hk' j hj e =>
      refine ⟨L, hL, k, hk', ?_⟩
      have e2 := e
      rw [e, drop_at hj] at ht'
      simp only [List.cons.injEq, Item.inRegion.injEq] at ht'
      obtain ⟨⟨rfl, rfl, _⟩, _⟩ := ht'
      rcases Nat.lt_or_ge (j + 1) L.o5.size with hlt | hge
      · rw [h5 L hL j o hlt ho'] at hk
        cases hk
      · have : j = L.o5.size - 1 := by omega
        subst this
        rw [e2, drop_at hj, List.drop_eq_nil_of_le (by simp; omega)]
    | o4 L hL k hk' z e hv hl =>
      exfalso
      obtain ⟨o1, b1, b2, _⟩ := (hLs L hL).op1
      rw [e] at ht'
      simp only [List.cons.injEq, Item.inRegion.injEq] at ht'
      obtain ⟨⟨rfl, rfl, _⟩, _⟩ := ht'
      rw [b1] at ho'
      cases ho'
      rw [b2] at hk
      simp [okOp] at hk
    | o5 L hL k hk' e hf => rw [e] at ht'; simp at ht'
    | o6 L hL k hk' e hf => rw [e] at ht'; simp at ht'
    | o7 L hL k hk' e hf => rw [e] at ht'; simp at ht'
    | o8 L hL k hk' e => rw [e] at ht'; simp at ht'
/-- The channel has been made: the frame stands ahead of the loop. -/
theorem made_place {L : Lp} {k : List Item} (c : Nat) (hm : fr.mode = .run) (hf : fr.fn = L.fn) (e : fr.todo = .inRegion L.o5 [L.o5.size - 1] :: .code L.loop :: k) (hd : (L.o5[L.o5.size - 1]?).bind (·.dst) = some L.slot) (h1 : L.slot < fr.tmps.size) (h2 : L.pair < fr.tmps.size) (h3 : L.flag < fr.tmps.size) :
    Place { L with rest := k } c (fr.finish (.chan (some c))) := by
  have hfin : fr.finish (.chan (some c)) = { fr with tmps := fr.tmps.setIfInBounds L.slot (.chan (some c)), todo := .inRegion L.o5 [] :: .code L.loop :: k } := by
    unfold Frame.finish
    rw [e]
    simp only [hd]
  rw [hfin]
  exact ⟨hf, hm, by simp [h1], by simpa using h2, by simpa using h3, .p1 L.o5 rfl⟩
/-- The channel was found closed: the frame is on its way out. -/
theorem shut_idle {ok : Op → Bool} {L : Lp} {c : Nat} {k : List Item} (hL : L ∈ Ls) (hk : ∀ i ∈ k, CalmI ok Ls i) (h : Place { L with rest := k } c fr) (e : fr.todo = .inRegion L.ops [0, 1] :: .code (.seq L.test L.body) :: L.tl k) (hd : (L.ops[0]?).bind (·.dst) = some L.pair) (z : Value) : Idle ok Ls (fr.finish (.tuple #[z, .bool false])) := by
  have hfin : fr.finish (.tuple #[z, .bool false]) = { fr with tmps := fr.tmps.setIfInBounds L.pair (.tuple #[z, .bool false]), todo := .inRegion L.ops [1] :: .code (.seq L.test L.body) :: L.tl k } := by
    unfold Frame.finish
    rw [e]
    simp only [hd]
  have hp : L.pair < fr.tmps.size := h.pair
  have hfl : L.flag < fr.tmps.size := h.flag
  rw [hfin]
  exact .o4 L hL k hk z rfl (by simp [Frame.eval, hp]) (by simpa using hfl)
end
end Go.Proofs.Ytfhcpehfmecpjaa
/- The loops of each function by themselves: what is held of all frames. -/
namespace Go.Proofs.Ytfhcpehfmecpjaa
open Go.Conc

section
variable {ok : Op → Bool} {F : FuncId → List Lp} {S S' : List FuncId} {T : Tables} {f g : Array Func} {P : Program} {fr fr' : Frame} {tops tops' : List Frame} {w w' : World}
theorem finish_fn (fr : Frame) (v : Value) : (fr.finish v).fn = fr.fn := by
  unfold Frame.finish
  split <;> rfl
theorem raise_fn (fr : Frame) (ch : List PanicEntry) : (fr.raise ch).fn = fr.fn := by
  unfold Frame.raise
  split <;> rfl
theorem finish_size (fr : Frame) (v : Value) (hx : ∀ r a k, fr.todo ≠ .extern r a :: k) : (fr.finish v).tmps.size = fr.tmps.size := by
  unfold Frame.finish
  split
  · dsimp only
    split <;> simp
  all_goals first
    | rfl
    | (rename_i e; exact absurd e (hx _ _ _))
theorem ord_extern {okk : Op → Bool} (h : Ord okk S fr) : ∀ r a k, fr.todo ≠ .extern r a :: k := fun r a k e => by
  have := h.items _ (by rw [e]; exact .head _)
  simp [okItem] at this
theorem raise_size (fr : Frame) (ch : List PanicEntry) : (fr.raise ch).tmps.size = fr.tmps.size := by
  unfold Frame.raise
  split <;> rfl
theorem move_fn (h : Move fr fr') : fr'.fn = fr.fn := by
  cases h with
  | same => rfl
  | fin v _ _ => exact finish_fn _ _
  | to k' _ _ => rfl
  | ret _ _ => rfl
  | raise ch => exact raise_fn _ _
theorem move_size (h : Move fr fr') : fr'.tmps.size = fr.tmps.size := by
  cases h with
  | same => rfl
  | fin v _ ht => exact finish_size _ _ (fun r a k e => by rw [ht] at e; cases e)
  | to k' _ _ => rfl
  | ret _ _ => rfl
  | raise ch => exact raise_size _ _
/-- A frame has all the slots of its function. -/
def Sz (P : Program) (fr : Frame) : Prop := ∀ fn, P.funcs[fr.fn]? = some fn → fn.ntmps ≤ fr.tmps.size
theorem sz_near {okk : Op → Bool} (h : Sz P fr) (ht : ∀ t ∈ tops, Sz P t) (ho : ∀ t ∈ tops, Ord okk S t ∧ t.mode = .run) (hn : Near P S fr tops fr' tops') : Sz P fr' ∧ ∀ t ∈ tops', Sz P t := by
  cases hn with
  | move hm =>
    refine ⟨fun fn e => ?_, ht⟩
    rw [move_size hm]
    exact h fn (by rw [← move_fn hm]; exact e)
  | enter x as hm e hi hk hx =>
    refine ⟨fun fn q => ?_, fun t q => ?_⟩
    · have q' : P.funcs[x]? = some fn := q
      simp only [Frame.enter, q', Option.map_some, Option.getD_some, Array.size_append, Array.size_replicate]
      omega
    · rcases List.mem_cons.1 q with rfl | q
      · exact h
      · exact ht t q
  | back v hm =>
    refine ⟨fun fn e => ?_, fun t q => ht t (.tail _ q)⟩
    rw [finish_size _ _ (ord_extern (ho _ (.head _)).1)]
    exact ht _ (.head _) fn (by rw [finish_fn] at e; exact e)
  | up ch hm =>
    refine ⟨fun fn e => ?_, fun t q => ht t (.tail _ q)⟩
    rw [raise_size]
    exact ht _ (.head _) fn (by rw [raise_fn] at e; exact e)
/-- AN ORDINARY STEP WHILE NO CHANNEL IS OPEN, each function with its own loops. -/
theorem Idle.nearF {okk : Op → Bool} (h : Idle ok (F fr.fn) fr) (ht : ∀ t ∈ tops, Waits ok (F t.fn) t) (hLs : ∀ x, ∀ L ∈ F x, LqOk P S L) (hsp : ¬ Spec P S fr tops) (ho : Ord okk S fr) (hn : Near P S fr tops fr' tops') {X : List Frame} {es : Array Event} (hst : stepG P true (Gr fr (tops ++ X)) w = .go (Gr fr' (tops' ++ X)) w' es)
    (hent : ∀ x ∈ S, ∀ as, Idle ok (F x) (Frame.enter P x as .normal)) (hc : ∀ ch, fr.mode ≠ .panicking ch) : Idle ok (F fr'.fn) fr' ∧ ∀ t ∈ tops', Waits ok (F t.fn) t := by
  have o4 : ∀ L ∈ F fr.fn, ∀ k z, fr.mode = .run → fr.todo = .inRegion L.ops [1] :: .code (.seq L.test L.body) :: L.tl k → fr.eval (.tmp L.pair) = .tuple #[z, .bool false] → fr' = fr.finish (.bool false) ∧ tops' ++ X = tops ++ X := by
    intro L hL k z hm e hv
    obtain ⟨o, b1, b2, _, b4⟩ := (hLs _ L hL).op1
    rw [unlook_step (P := P) (main := true) (cs := tops ++ X) (w := w) ho.round ho.kind hm e b1 b2 (b4 _) hv] at hst
    injection hst with q1 q2 q3
    injection q1 with q4 q5
    exact ⟨q4.symm, q5.symm⟩
  cases hn with
  | move hm =>
    rw [move_fn hm]
    by_cases hmd : fr.mode = .run
    · exact ⟨h.move (hLs _) hsp hm (fun L hL k z e hv => (o4 L hL k z hmd e hv).1), ht⟩
    · refine ⟨?_, ht⟩
      cases hm with
      | same => exact h
      | raise ch => unfold Frame.raise; split <;> exact h.as rfl rfl
      | ret q _ => exact absurd q hmd
      | fin v q _ => exact absurd q hmd
      | to k' q _ => exact absurd q hmd
  | enter x as hm e hi hk hx =>
    refine ⟨hent x (hx S (fun _ q => q) hk) as, fun t hq => ?_⟩
    rcases List.mem_cons.1 hq with rfl | hq
    · refine ⟨?_, hm, _, _, _, _, e⟩
      cases h with
      | plain h => exact .plain h
      | e1 L hL k hk' e' => rw [e'] at e; simp at e
      | e2 L hL k hk' j hj e' =>
        refine .e2 L hL k hk' j ?_ e'
        rcases Nat.lt_or_ge (j + 1) L.o5.size with hlt | hge
        · exact hlt
        · exfalso
          obtain ⟨o, q1, q2, _⟩ := (hLs _ L hL).last
          rw [e', drop_at hj] at e
          simp only [List.cons.injEq, Item.inRegion.injEq] at e
          obtain ⟨⟨rfl, rfl, _⟩, _⟩ := e
          have : L.o5.size - 1 = j := by omega
          rw [this, hi] at q1
          cases q1
          rw [q2] at hk
          cases hk
      | o4 L hL k hk' z e' hv hl =>
        exfalso
        obtain ⟨_, q⟩ := o4 L hL k z hm e' hv
        have := congrArg List.length q
        simp at this
      | o5 L hL k hk' e' hf => rw [e'] at e; simp at e
      | o6 L hL k hk' e' hf => rw [e'] at e; simp at e
      | o7 L hL k hk' e' hf => rw [e'] at e; simp at e
      | o8 L hL k hk' e' => rw [e'] at e; simp at e
    · exact ht t hq
  | back v hm =>
    have hw := ht _ (.head _)
    obtain ⟨ops, i, r, k, e⟩ := hw.spot
    refine ⟨?_, fun t q => ht t (.tail _ q)⟩
    rw [finish_fn]
    exact hw.idle.fin v hw.mode e
  | up ch hm => exact absurd hm (hc ch)
theorem LpOk.rest {L : Lp} (h : LpOk P S S' L) (k : List Item) : LpOk P S S' { L with rest := k } := ⟨h.ok, h.sub, h.size, h.body, h.op0, h.op1, h.pair, h.flag⟩
end
/-- WHAT THE CODE MUST SAY OF THE PROGRAM g AND ITS TWIN f: F x are the loops over channels in function x. -/
structure Env (T : Tables) (f g : Array Func) (ok : Op → Bool) (S S' : List FuncId) (F : FuncId → List Lp) : Prop where
  fine : ∀ x ∈ S, Fine ok f g x
  fine' : ∀ x ∈ S', Fine (okOp ⟨T, f⟩ S') f f x
  st : ∀ b, (⟨T, f⟩ : Program).stepOf b = none
  st₁ : ∀ b, (⟨T, g⟩ : Program).stepOf b = none
  lp : ∀ x, ∀ L ∈ F x, LpOk ⟨T, f⟩ S S' L
  lq : ∀ x, ∀ L ∈ F x, LqOk ⟨T, f⟩ S L
  o5 : ∀ x, ∀ L ∈ F x, ∀ j o, j + 1 < L.o5.size → L.o5[j]? = some o → okOp ⟨T, f⟩ S o.op = true
  fn : ∀ x, ∀ L ∈ F x, L.fn = x
  dst : ∀ x, ∀ L ∈ F x, (L.o5[L.o5.size - 1]?).bind (·.dst) = some L.slot
  sz : ∀ x, ∀ L ∈ F x, ∀ fn, f[x]? = some fn → L.slot < fn.ntmps ∧ L.pair < fn.ntmps ∧ L.flag < fn.ntmps
  ent : ∀ x ∈ S, ∀ as, Idle (okOp ⟨T, f⟩ S) (F x) (Frame.enter ⟨T, f⟩ x as .normal)
  rc : ∀ x, ∀ L ∈ F x, ∃ o ct el d z, L.ops[0]? = some o ∧ o.op = .recv ct (.tmp L.slot) true ∧ (∀ y, Region.wanted o y = true) ∧
    ∀ P : Program, (P = ⟨T, f⟩ ∨ P = ⟨T, g⟩) → (∀ w es, (underlying ct).runT P w es = (.ok (.chan d el) w, es)) ∧ ∀ w es, (zeroValue el).runT P w es = (.ok z w, es)
section
variable {ok : Op → Bool} {F : FuncId → List Lp} {S S' : List FuncId} {T : Tables} {f g : Array Func} {fr fr' : Frame} {tops tops' : List Frame} {w w' : World}
/-- No channel is open. -/
structure Id (T : Tables) (f : Array Func) (S : List FuncId) (F : FuncId → List Lp) (fr : Frame) (tops : List Frame) : Prop where
  top : Idle (okOp ⟨T, f⟩ S) (F fr.fn) fr
  low : ∀ t ∈ tops, Waits (okOp ⟨T, f⟩ S) (F t.fn) t
  sz : Sz ⟨T, f⟩ fr
  szt : ∀ t ∈ tops, Sz ⟨T, f⟩ t
/-- A loop over channel c runs. -/
structure Hd (T : Tables) (f : Array Func) (S S' : List FuncId) (F : FuncId → List Lp) (c : Nat) (fr : Frame) (tops : List Frame) : Prop where
  held : ∃ x, ∃ L ∈ F x, ∃ k, (∀ i ∈ k, CalmI (okOp ⟨T, f⟩ S) (F x) i) ∧ Held S' (fun t => Waits (okOp ⟨T, f⟩ S) (F t.fn) t) { L with rest := k } c fr tops
  sz : Sz ⟨T, f⟩ fr
  szt : ∀ t ∈ tops, Sz ⟨T, f⟩ t
theorem Env.ff (h : Env T f g ok S S' F) : ∀ x ∈ S, Fine ok f f x := fun x hx => ⟨⟨rfl, (h.fine x hx).1.2⟩, (h.fine x hx).2⟩
theorem Id.near {Fin : Frame → World → Prop} (hE : Env T f g ok S S' F) (h : Id T f S F fr tops) (ho : Ord ok S fr) (htops : ∀ t ∈ tops, Ord ok S t ∧ t.mode = .run) (hsp : ¬ Spec ⟨T, f⟩ S fr tops) (hn : Near ⟨T, f⟩ S fr tops fr' tops') {X : List Frame} {es : Array Event}
    (hst : stepG ⟨T, f⟩ true (Gr fr (tops ++ X)) w = .go (Gr fr' (tops' ++ X)) w' es) (hc : ∀ ch, fr.mode ≠ .panicking ch) : Id T f S F fr' tops' := by
  obtain ⟨h1, h2⟩ := h.top.nearF h.low hE.lq hsp ho hn hst hE.ent hc
  obtain ⟨h3, h4⟩ := sz_near h.sz h.szt htops hn
  exact ⟨h1, h2, h3, h4⟩
theorem Hd.near {c : Nat} (hE : Env T f g ok S S' F) (h : Hd T f S S' F c fr tops) (ho : Ord ok S fr) (htops : ∀ t ∈ tops, Ord ok S t ∧ t.mode = .run) (hsp : ¬ Spec ⟨T, f⟩ S fr tops) (hn : Near ⟨T, f⟩ S fr tops fr' tops') {X : List Frame} {es : Array Event}
    (hst : stepG ⟨T, f⟩ true (Gr fr (tops ++ X)) w = .go (Gr fr' (tops' ++ X)) w' es) (hc : ∀ ch, fr.mode ≠ .panicking ch) (hc' : ∀ ch, fr'.mode ≠ .panicking ch) : Hd T f S S' F c fr' tops' := by
  obtain ⟨x, L, hL, k, hk, hh⟩ := h.held
  obtain ⟨h3, h4⟩ := sz_near h.sz h.szt htops hn
  refine ⟨⟨x, L, hL, k, hk, hh.near ((hE.lp x L hL).rest k) ho hsp hn hst ?_ hc hc'⟩, h3, h4⟩
  show ∀ y ∈ S', Fine L.ok f f y
  rw [(hE.lp x L hL).ok]
  exact hE.fine'
end
end Go.Proofs.Ytfhcpehfmecpjaa
/- The twin's tree, with its three leaps: a value is taken, the channel is found closed, a channel is made. -/
namespace Go.Proofs.Ytfhcpehfmecpjaa
open Go.Conc

section
variable {ok : Op → Bool} {F : FuncId → List Lp} {S S' : List FuncId} {T : Tables} {f g : Array Func} {fr fr' : Frame} {tops tops' : List Frame} {w w' : World} {V : Lp → Frame → List Value → Prop} {Fin : Frame → World → Prop}
/-- The leaps. 'V L fr vs': vs is what is sent over the channel that fr's call makes. -/
inductive Jump (T : Tables) (f : Array Func) (S : List FuncId) (F : FuncId → List Lp) (V : Lp → Frame → List Value → Prop) : Frame → List Frame → World → Frame → List Frame → World → Prop
  | take {fr : Frame} {tops : List Frame} {w : World} (x : FuncId) (L : Lp) (hL : L ∈ F x) (k : List Item) (c cap s r : Nat) (v : Value) (vs : List Value) (hm : fr.mode = .run) (hsp : Spec ⟨T, f⟩ S fr tops) (e : fr.todo = .inRegion L.ops [0, 1] :: .code (.seq L.test L.body) :: L.tl k) (hs : fr.tmps[L.slot]? = some (.chan (some c)))
      (hc : w.heap[c]? = some (.chan cap (v :: vs).toArray true s r false)) (hl : Leap ⟨T, f⟩ fr tops w (fr.finish (.tuple #[v, .bool true])) tops (w.setChan c cap vs.toArray true s (r + 1) false)) :
      Jump T f S F V fr tops w (fr.finish (.tuple #[v, .bool true])) tops (w.setChan c cap vs.toArray true s (r + 1) false)
  | shut {fr : Frame} {tops : List Frame} {w : World} (x : FuncId) (L : Lp) (hL : L ∈ F x) (k : List Item) (c cap s r : Nat) (z : Value) (hm : fr.mode = .run) (hsp : Spec ⟨T, f⟩ S fr tops) (e : fr.todo = .inRegion L.ops [0, 1] :: .code (.seq L.test L.body) :: L.tl k) (hs : fr.tmps[L.slot]? = some (.chan (some c)))
      (hc : w.heap[c]? = some (.chan cap #[] true s r false)) (hz : AtRc ⟨T, f⟩ fr c z) (hl : Leap ⟨T, f⟩ fr tops w (fr.finish (.tuple #[z, .bool false])) tops w) :
      Jump T f S F V fr tops w (fr.finish (.tuple #[z, .bool false])) tops w
  | made {fr : Frame} {tops : List Frame} {w : World} (L : Lp) (hL : L ∈ F fr.fn) (k : List Item) (vs : List Value) (cap n : Nat) (hv : V L fr vs) (hm : fr.mode = .run) (hsp : Spec ⟨T, f⟩ S fr tops) (e : fr.todo = .inRegion L.o5 [L.o5.size - 1] :: .code L.loop :: k) (hk : ∀ i ∈ k, CalmI (okOp ⟨T, f⟩ S) (F fr.fn) i)
      (hl : Leap ⟨T, f⟩ fr tops w (fr.finish (.chan (some w.heap.size))) tops (w.alloc (.chan cap vs.toArray true n 0 false))) :
      Jump T f S F V fr tops w (fr.finish (.chan (some w.heap.size))) tops (w.alloc (.chan cap vs.toArray true n 0 false))
/-- WHAT THE TWIN'S CALL OF CELLS DOES. -/
def CallT (T : Tables) (f : Array Func) (ok : Op → Bool) (S : List FuncId) (F : FuncId → List Lp) (V : Lp → Frame → List Value → Prop) : Prop :=
  ∀ (fr : Frame) (tops : List Frame) (w : World) (L : Lp) (k : List Item), L ∈ F fr.fn → Ord ok S fr → fr.mode = .run → Sz ⟨T, f⟩ fr → fr.todo = .inRegion L.o5 [L.o5.size - 1] :: .code L.loop :: k →
    (∃ vs cap n, V L fr vs ∧ Leap ⟨T, f⟩ fr tops w (fr.finish (.chan (some w.heap.size))) tops (w.alloc (.chan cap vs.toArray true n 0 false))) ∨ ∀ Fin, ¬ Tm2 ⟨T, f⟩ Fin fr tops w
def Inv (T : Tables) (f : Array Func) (S S' : List FuncId) (F : FuncId → List Lp) (fr : Frame) (tops : List Frame) (w : World) : Prop :=
  Id T f S F fr tops ∨ ∃ c, Hd T f S S' F c fr tops ∧ ∃ cap buf s r, w.heap[c]? = some (.chan cap buf true s r false)
theorem ord_next (hE : Env T f g ok S S' F) (ho : Ord ok S fr) (ht : ∀ t ∈ tops, Ord ok S t ∧ t.mode = .run) (hsp : ¬ Spec ⟨T, f⟩ S fr tops) {τ : Nat → Question → Nat} {es : Array Event} {X : List Frame}
    (hst : stepG ⟨T, f⟩ true (Gr fr (tops ++ X)) (Rt w τ) = .go (Gr fr' (tops' ++ X)) w' es) : Ord ok S fr' ∧ ∀ t ∈ tops', Ord ok S t ∧ t.mode = .run := by
  rcases use (w := w) ho ht hE.ff hE.st hsp X τ with ⟨fr2, tops2, w2, es2, e, _, h1, h2, _⟩ | ⟨o, w2, es2, e⟩
  · rw [hst] at e
    injection e with q1 q2 q3
    injection q1 with q4 q5
    have q6 := List.append_cancel_right q5
    subst q4 q6
    exact ⟨h1, h2⟩
  · rw [hst] at e
    cases e
theorem calm_next (hE : Env T f g ok S S' F) (ho : Ord ok S fr) (ht : ∀ t ∈ tops, Ord ok S t ∧ t.mode = .run) (hsp : ¬ Spec ⟨T, f⟩ S fr tops) {τ : Nat → Question → Nat} {es : Array Event} {X : List Frame}
    (hst : stepG ⟨T, f⟩ true (Gr fr (tops ++ X)) (Rt w τ) = .go (Gr fr' (tops' ++ X)) w' es) (hT : Tm2 ⟨T, f⟩ Fin fr' tops' w') : (∀ ch, fr.mode ≠ .panicking ch) ∧ ∀ ch, fr'.mode ≠ .panicking ch := by
  obtain ⟨h1, h2⟩ := ord_next hE ho ht hsp hst
  have c2 := hT.calm hE.ff h1 h2
  refine ⟨fun ch hm => ?_, c2⟩
  cases tops with
  | nil => exact hsp (.inl ⟨rfl, by rw [hm]; simp⟩)
  | cons t tops =>
    obtain ⟨_, fn, k2, _⟩ := (hE.fine fr.fn ho.fn).1
    have := panic_up (T := T) (f := f) ho hm k2 true t (tops ++ X) (Rt w τ)
    rw [List.cons_append, this] at hst
    injection hst with q1 q2 q3
    injection q1 with q4 q5
    exact c2 ch (by rw [← q4]; exact raise_mode (ht t (.head _)).2 ch)
theorem inv_step (hE : Env T f g ok S S' F) (ho : Ord ok S fr) (ht : ∀ t ∈ tops, Ord ok S t ∧ t.mode = .run) (hsp : ¬ Spec ⟨T, f⟩ S fr tops) (hn : Near ⟨T, f⟩ S fr tops fr' tops') (kc : Kc w w') {τ : Nat → Question → Nat} {es : Array Event} {X : List Frame}
    (hst : stepG ⟨T, f⟩ true (Gr fr (tops ++ X)) (Rt w τ) = .go (Gr fr' (tops' ++ X)) w' es) (hT : Tm2 ⟨T, f⟩ Fin fr' tops' w') (h : Inv T f S S' F fr tops w) : Inv T f S S' F fr' tops' w' := by
  obtain ⟨c1, c2⟩ := calm_next hE ho ht hsp hst hT
  rcases h with h | ⟨c, h, cap, buf, s, r, hc⟩
  · exact .inl (h.near (Fin := Fin) hE ho ht hsp hn hst c1)
  · exact .inr ⟨c, h.near hE ho ht hsp hn hst c1 c2, cap, buf, s, r, (kc _ _ _ _ _ _ _).2 hc⟩
/-- The channel has been made: its loop is held. -/
theorem made_hd (hE : Env T f g ok S S' F) (ho : Ord ok S fr) (hi : Id T f S F fr tops) {L : Lp} (hL : L ∈ F fr.fn) {k : List Item} (hk : ∀ i ∈ k, CalmI (okOp ⟨T, f⟩ S) (F fr.fn) i) (hm : fr.mode = .run) (e : fr.todo = .inRegion L.o5 [L.o5.size - 1] :: .code L.loop :: k) (c : Nat) :
    Hd T f S S' F c (fr.finish (.chan (some c))) tops := by
  obtain ⟨_, fn, k2, _⟩ := (hE.fine fr.fn ho.fn).1
  obtain ⟨z1, z2, z3⟩ := hE.sz _ L hL fn k2
  have hz := hi.sz fn k2
  refine ⟨⟨fr.fn, L, hL, k, hk, .top (made_place c hm (hE.fn _ L hL).symm e (hE.dst _ L hL) (by omega) (by omega) (by omega)) hi.low⟩, fun fn' q => ?_, hi.szt⟩
  rw [finish_size _ _ (ord_extern ho)]
  exact hi.sz fn' (by rw [finish_fn] at q; exact q)
theorem Hd.at {c : Nat} (hE : Env T f g ok S S' F) (h : Hd T f S S' F c fr tops) (hsp : Spec ⟨T, f⟩ S fr tops) (ho : Ord ok S fr) : ∃ x, ∃ L ∈ F x, ∃ k z, fr.mode = .run ∧ fr.todo = .inRegion L.ops [0, 1] :: .code (.seq L.test L.body) :: L.tl k ∧ fr.tmps[L.slot]? = some (.chan (some c)) ∧ AtRc ⟨T, f⟩ fr c z ∧ AtRc ⟨T, g⟩ fr c z ∧
    Id T f S F (fr.finish (.tuple #[z, .bool false])) tops ∧ ∀ v, Hd T f S S' F c (fr.finish (.tuple #[v, .bool true])) tops := by
  obtain ⟨x, L, hL, k, hk, hh⟩ := h.held
  have hlp := hE.lp x L hL
  obtain ⟨hp, e, hq⟩ := hh.spec (hlp.rest k) hsp
  obtain ⟨o, ct, el, d, z, o1, o2, o3, o4⟩ := hE.rc x L hL
  have hev : fr.eval (.tmp L.slot) = .chan (some c) := by simp [Frame.eval, hp.chan]
  have hx : x = fr.fn := (hE.fn x L hL).symm.trans hp.fn.symm
  obtain ⟨o0, a1, a2, a3, a4⟩ := hlp.op0
  rw [o1] at a1
  cases a1
  have hd : (L.ops[0]?).bind (·.dst) = some L.pair := by rw [o1]; exact a3
  have sz' : ∀ v : Value, Sz ⟨T, f⟩ (fr.finish v) := fun v fn q => by
    rw [finish_size _ _ (ord_extern ho)]
    exact h.sz fn (by rw [finish_fn] at q; exact q)
  refine ⟨x, L, hL, k, z, hp.mode, e, hp.chan, at_rc ho hp.mode e o1 (o3 _) o2 hev (o4 _ (.inl rfl)).1 (o4 _ (.inl rfl)).2, at_rc ho hp.mode e o1 (o3 _) o2 hev (o4 _ (.inr rfl)).1 (o4 _ (.inr rfl)).2, ?_, fun v => ?_⟩
  · refine ⟨?_, hq, sz' _, h.szt⟩
    rw [finish_fn, ← hx]
    exact shut_idle hL hk hp e hd z
  · exact ⟨⟨x, L, hL, k, hk, .top (hp.take e hd hlp.pair v) hq⟩, sz' _, h.szt⟩
theorem jumps (hE : Env T f g ok S S' F) (hC : CallT T f ok S F V) (ho : Ord ok S fr) (ht : ∀ t ∈ tops, Ord ok S t ∧ t.mode = .run) (hm : fr.mode = .run) (hsp : Spec ⟨T, f⟩ S fr tops) (h : Inv T f S S' F fr tops w) (hT : Tm2 ⟨T, f⟩ Fin fr tops w) :
    ∃ fr' tops' w', Jump T f S F V fr tops w fr' tops' w' ∧ Leap ⟨T, f⟩ fr tops w fr' tops' w' ∧ Ord ok S fr' ∧ (∀ t ∈ tops', Ord ok S t ∧ t.mode = .run) ∧ Inv T f S S' F fr' tops' w' := by
  rcases h with h | ⟨c, h, cap, buf, s, r, hc⟩
  · obtain ⟨L, hL, k, hk, e⟩ := h.top.spec (hE.lq _) hm hsp (hE.o5 _)
    rcases hC fr tops w L k hL ho hm h.sz e with ⟨vs, cap, n, hv, hl⟩ | hno
    · refine ⟨_, _, _, .made L hL k vs cap n hv hm hsp e hk hl, hl, ho.finish _, ht, .inr ⟨w.heap.size, made_hd hE ho h hL hk hm e _, cap, vs.toArray, n, 0, ?_⟩⟩
      show (w.heap.push _)[w.heap.size]? = _
      simp
    · exact absurd hT (hno _)
  · obtain ⟨x, L, hL, k, z, hm', e, hs, a1, a2, hid, hhd⟩ := h.at hE hsp ho
    rcases recv_some a1 hm hc hT with hb | ⟨rfl, _⟩
    · obtain ⟨l⟩ := buf
      cases l with
      | nil => simp at hb
      | cons v vs =>
        have hl := leap_recv (tops := tops) a1 hc hb
        have e1 : ((v :: vs).toArray.extract 1 (v :: vs).toArray.size) = vs.toArray := by simp
        have e2 : (v :: vs).toArray.getD 0 undef = v := rfl
        have hl' : Leap ⟨T, f⟩ fr tops w (fr.finish (.tuple #[v, .bool true])) tops (w.setChan c cap vs.toArray true s (r + 1) false) := by
          rw [← e1]
          exact hl
        refine ⟨_, _, _, .take x L hL k c cap s r v vs hm hsp e hs hc hl', hl', ho.finish _, ht, .inr ⟨c, hhd v, cap, vs.toArray, s, r + 1, ?_⟩⟩
        have hlt : c < w.heap.size := (Array.getElem?_eq_some_iff.1 hc).1
        simp [World.setChan, hlt]
    · have hl := leap_shut (tops := tops) a1 hc
      exact ⟨_, _, _, .shut x L hL k c cap s r z hm hsp e hs hc a1 hl, hl, ho.finish _, ht, .inl hid⟩
/-- ████ THE TREE. ████ -/
theorem tree (hE : Env T f g ok S S' F) (hC : CallT T f ok S F V) (ho : Ord ok S fr) (ht : ∀ t ∈ tops, Ord ok S t ∧ t.mode = .run) (h : Inv T f S S' F fr tops w) (hT : Tm2 ⟨T, f⟩ Fin fr tops w) : Tree ⟨T, f⟩ S (Jump T f S F V) fr tops w :=
  bar (I := Inv T f S S' F) hE.ff hE.st (fun fr tops w fr' tops' w' τ es ho ht hsp hn kc hst hT hi => inv_step hE ho ht hsp hn kc hst hT hi) (fun fr tops w ho ht hm hsp hi hT => jumps hE hC ho ht hm hsp hi hT) ho ht h hT
end
end Go.Proofs.Ytfhcpehfmecpjaa
/- The program's run, along the twin's tree: no channel open; a channel open; a channel closed and not yet found so. -/
namespace Go.Proofs.Ytfhcpehfmecpjaa
open Go.Conc
open Go.ConcN (sumTo upd sumTo_upd upd_ne upd_same)

section
variable {ok : Op → Bool} {F : FuncId → List Lp} {S S' : List FuncId} {T : Tables} {f g : Array Func} {P : Program} {fr fr' : Frame} {tops tops' : List Frame} {w w' w₀ w₁ : World} {V : Lp → Frame → List Value → Prop} {Fin : Frame → World → Prop} {Post : Value → World → Prop} {τ₀ : Nat → Question → Nat}
/-- Channels that were there at first are as they were, in both. -/
def Jw (w₀ w w₁ : World) : Prop := ∀ (b c : Nat) (bf : Array Value) (cl : Bool) (s r : Nat) (t : Bool), w₀.heap[b]? = some (.chan c bf cl s r t) → w.heap[b]? = some (.chan c bf cl s r t) ∧ w₁.heap[b]? = some (.chan c bf cl s r t)
theorem Jw.kc {w₁' : World} (h : Jw w₀ w w₁) (k : Kc w w') (k₁ : Kc w₁ w₁') : Jw w₀ w' w₁' := fun b c bf cl s r t e => ⟨(k _ _ _ _ _ _ _).2 (h _ _ _ _ _ _ _ e).1, (k₁ _ _ _ _ _ _ _).2 (h _ _ _ _ _ _ _ e).2⟩
/-- The block is no channel of the first world's. -/
def New (w₀ : World) (b : Nat) : Prop := ∀ c bf cl s r t, w₀.heap[b]? ≠ some (.chan c bf cl s r t)
theorem set_other {w : World} {c cap : Nat} {buf : Array Value} {cl tm : Bool} {s r b : Nat} (h : b ≠ c) : (w.setChan c cap buf cl s r tm).heap[b]? = w.heap[b]? := by
  simp [World.setChan, Ne.symm h]
theorem set_same {w : World} {c cap : Nat} {buf : Array Value} {cl tm : Bool} {s r : Nat} {o : Obj} (h : w.heap[c]? = some o) : (w.setChan c cap buf cl s r tm).heap[c]? = some (.chan cap buf cl s r tm) := by
  have hlt : c < w.heap.size := (Array.getElem?_eq_some_iff.1 h).1
  simp [World.setChan, hlt]
/-- Channel c turned on either side. -/
theorem sim_set {c cap cap₁ : Nat} {buf buf₁ : Array Value} {cl cl₁ tm tm₁ : Bool} {s r s₁ r₁ : Nat} {o o₁ : Obj} (h : Sim (some 0) w w₁) (hc : w.heap[c]? = some o) (hc₁ : w₁.heap[c]? = some o₁) : Sim (some 0) (w.setChan c cap buf cl s r tm) (w₁.setChan c cap₁ buf₁ cl₁ s₁ r₁ tm₁) := by
  refine ⟨h.os, h.output, by simpa [World.setChan] using h.size, fun b => ?_⟩
  by_cases e : b = c
  · subst e
    exact .inr ⟨⟨0, rfl, Nat.zero_le _⟩, ⟨_, _, _, _, _, _, set_same hc⟩, ⟨_, _, _, _, _, _, set_same hc₁⟩⟩
  · rw [set_other e, set_other e]
    exact h.block b
theorem sim_set1 {c cap₁ : Nat} {buf₁ : Array Value} {cl₁ tm₁ : Bool} {s₁ r₁ : Nat} {o₁ : Obj} {cap : Nat} {buf : Array Value} {cl tm : Bool} {s r : Nat} (h : Sim (some 0) w w₁) (hc : w.heap[c]? = some (.chan cap buf cl s r tm)) (hc₁ : w₁.heap[c]? = some o₁) : Sim (some 0) w (w₁.setChan c cap₁ buf₁ cl₁ s₁ r₁ tm₁) := by
  refine ⟨h.os, h.output, by simpa [World.setChan] using h.size, fun b => ?_⟩
  by_cases e : b = c
  · subst e
    exact .inr ⟨⟨0, rfl, Nat.zero_le _⟩, ⟨_, _, _, _, _, _, hc⟩, ⟨_, _, _, _, _, _, set_same hc₁⟩⟩
  · rw [set_other e]
    exact h.block b
theorem jw_set {c cap cap₁ : Nat} {buf buf₁ : Array Value} {cl cl₁ tm tm₁ : Bool} {s r s₁ r₁ : Nat} (h : Jw w₀ w w₁) (hn : New w₀ c) : Jw w₀ (w.setChan c cap buf cl s r tm) (w₁.setChan c cap₁ buf₁ cl₁ s₁ r₁ tm₁) := by
  intro b c' bf cl' s' r' t' e
  have hb : b ≠ c := fun q => by subst q; exact hn _ _ _ _ _ _ e
  rw [set_other hb, set_other hb]
  exact h _ _ _ _ _ _ _ e
theorem jw_set1 {c cap₁ : Nat} {buf₁ : Array Value} {cl₁ tm₁ : Bool} {s₁ r₁ : Nat} (h : Jw w₀ w w₁) (hn : New w₀ c) : Jw w₀ w (w₁.setChan c cap₁ buf₁ cl₁ s₁ r₁ tm₁) := by
  intro b c' bf cl' s' r' t' e
  have hb : b ≠ c := fun q => by subst q; exact hn _ _ _ _ _ _ e
  rw [set_other hb]
  exact h _ _ _ _ _ _ _ e
/-- ONE ORDINARY STEP OF BOTH, on the answers that the program gets. -/
theorem two_step (hE : Env T f g ok S S' F) (hsp : ¬ Spec ⟨T, f⟩ S fr tops) (ho : Ord ok S fr) (ht : ∀ t ∈ tops, Ord ok S t ∧ t.mode = .run) (hM : Tm2 ⟨T, f⟩ Fin fr tops w) (hS : Sim (some 0) w w₁) :
    ∃ fr' tops' w' w₁' es, stepG ⟨T, f⟩ true (Gr fr (tops ++ [sent ⟨T, f⟩])) (Rt w (glue w w₁ w₁.drawn)) = .go (Gr fr' (tops' ++ [sent ⟨T, f⟩])) w' es ∧ stepG ⟨T, g⟩ true (Gr fr tops) w₁ = .go (Gr fr' tops') w₁' es ∧ Near ⟨T, f⟩ S fr tops fr' tops' ∧ Kc w w' ∧ Kc w₁ w₁' ∧
      Ord ok S fr' ∧ (∀ t ∈ tops', Ord ok S t ∧ t.mode = .run) ∧ Sim (some 0) w' w₁' ∧ w₁'.tape = w₁.tape ∧ Quietly es ∧ Tm2 ⟨T, f⟩ Fin fr' tops' w' := by
  have key : Both (some 0) ok S ⟨T, f⟩ ⟨T, g⟩ true true fr tops [sent ⟨T, f⟩] [] (Rt w (glue w w₁ w₁.drawn)) (w₁.at w₁.drawn) := both_step ho ht hE.fine hE.st hE.st₁ ⟨hS.os, hS.output, hS.size, hS.block⟩ hsp
  obtain ⟨fr3, tops3, w3, es3, e3, _, _, _, _, _, _, hM3, _⟩ := tm_step ho ht hE.ff hE.st hsp hM _ (glue_ext w w₁ w₁.drawn)
  rcases key with ⟨fr', tops', w', k, es, e, nr, h1, h2, t1, d1, hq, kc, x⟩ | ⟨o, w', es, e⟩
  · obtain ⟨w₁', e', s', t', d', kc'⟩ := x (glue_agree w w₁ w₁.drawn k)
    have e4 := e3
    rw [e] at e4
    injection e4 with r1 r2 r3
    injection r1 with r4 r5
    have r6 := List.append_cancel_right r5
    subst r4 r6 r2
    rw [List.append_nil, List.append_nil] at e'
    exact ⟨fr', tops', w', w₁', es, e, e', nr, kc, kc', h1, h2, s', t', hq, hM3⟩
  · rw [e] at e3
    cases e3
/-- THE RECEIVE THAT FINDS THE CHANNEL CLOSED, beside leavers. -/
theorem closing_recv {a : Goroutine} {gs : Array Goroutine} {sl : Option (Nat × Nat)} {t : Trace} {q : Nat → Nat} {B c m j cap s r : Nat} {z : Value} {tm : Bool} (ha : a.status = .running) (hs : ∀ v, stepG P true a v = .comm (Gr fr tops) #[rcase c z] true (.recv true) v #[]) (h0 : gs[0]? = some a) (hL : Leavers P t gs q) (hP : Pc c m j B t) (hB : c < B)
    (hc : w₁.heap[c]? = some (.chan cap #[] true s r tm))
    (k : ∀ (d : Nat) (gs' : Array Goroutine) (sl' : Option (Nat × Nat)) (t' : Trace) (q' : Nat → Nat) (B' : Nat), gs'[0]? = some (Gr (fr.finish (.tuple #[z, .bool false])) tops) → Leavers P t' gs' q' → Pi B' t' → Win P Post gs' (w₁.at d) sl' t') : Win P Post gs w₁ sl t := by
  obtain ⟨N, gs', d, d', sl', sl'', t', q', hr, hsz, h0', hL', hP', hst⟩ := turn0 (keeps_pc c m j) _ gs a w₁ sl t q (Nat.le_refl _) h0 ha hL hP
  have hpart : partners (gs'.setIfInBounds 0 ph) c true = [] := by
    refine partners_nil (fun i x hx => ?_)
    rcases Nat.eq_zero_or_pos i with rfl | hpos
    · have hlt : 0 < gs'.size := (Array.getElem?_eq_some_iff.1 h0').1
      rw [Array.getElem?_setIfInBounds_self_of_lt hlt] at hx
      cases hx
      rfl
    · rw [Array.getElem?_setIfInBounds_ne (by omega)] at hx
      exact offersAt_of_not_blocked (by rcases (hL'.old i x hpos hx).status with y | y <;> rw [y] <;> simp) _ _
  have hrun := crowd_recv_closed (P := P) (sl := sl'') (i := 0) (w := w₁.at d') h0' (hs (w₁.at d')) (show (w₁.at d').heap[c]? = _ from hc) hpart
  refine Win.of hr (Win.step (hst.trans hrun) ?_)
  have hops : MemOp.ofEvents 0 a.frame.fn a.frame.place #[] ++ #[({ g := 0, fn := (Gr fr tops).frame.fn, pos := (Gr fr tops).frame.place, act := .recvClosed c } : MemOp)] = #[({ g := 0, fn := fr.fn, pos := fr.place, act := .recvClosed c } : MemOp)] := by
    simp [MemOp.ofEvents]
  rw [hops]
  have hlt : 0 < gs'.size := (Array.getElem?_eq_some_iff.1 h0').1
  have hd : ∀ i, i ≠ 0 → Deaf (t' ++ #[({ g := 0, fn := fr.fn, pos := fr.place, act := .recvClosed c } : MemOp)]) i = Deaf t' i := fun i hi => Deaf_other t' (g' := 0) (by omega) _ (fun op hop => by rw [show op = _ by simpa using hop])
  refine k d' _ sl'' _ q' B ?_ ⟨fun i x hi hx => ?_, fun i hi => ?_⟩ (hP'.take hB fr.fn fr.place)
  · rw [Array.getElem?_setIfInBounds_self_of_lt hlt]
    rfl
  · rw [Array.getElem?_setIfInBounds_ne (by omega)] at hx
    rw [hd i (by omega)]
    exact hL'.old i x hi hx
  · have hi' : gs'.size ≤ i := by simpa using hi
    rw [hd i (by omega)]
    exact hL'.above i hi'
/-- From a place beside the sender to one beside leavers, where the sender has just closed. -/
theorem shut_leavers {c j n : Nat} {gs : Array Goroutine} {t : Trace} {q : Nat → Nat} {B : Nat} {b' : Goroutine} (hA : Af P c j gs t q B) (hj : gs[j]? = some b') (hq : QuitsD P n 0 b') (fn : FuncId) (pos : String) :
    Leavers P (t ++ MemOp.ofEvents j fn pos (closeEvents c)) gs (upd q j n) ∧ Pc c t.size j B (t ++ MemOp.ofEvents j fn pos (closeEvents c)) := by
  have hne : j ≠ 0 := by have := hA.j0; omega
  have ho : ∀ op ∈ MemOp.ofEvents j fn pos (closeEvents c), op.g = j := fun op hop => by obtain ⟨e, _, rfl⟩ := Go.Conc.mem_ofEvents hop; rfl
  have hown : Deaf (t ++ MemOp.ofEvents j fn pos (closeEvents c)) j = 0 := by
    rw [closeOps]
    refine (Deaf_quiet (fun op hop d => ?_)).trans hA.hear
    rcases (by simpa using hop : op = _ ∨ op = _) with rfl | rfl <;> rfl
  refine ⟨⟨fun i x hi hx => ?_, fun i hi => ?_⟩, Pc.of hA.past hne hA.hear hA.cB fn pos⟩
  · by_cases e : i = j
    · subst e
      rw [hj] at hx
      cases hx
      rw [upd_same, hown]
      exact hq
    · rw [upd_ne q n e, Deaf_other t (g' := j) (Ne.symm e) _ ho]
      exact hA.old i x hi e hx
  · have hlt : j < gs.size := (Array.getElem?_eq_some_iff.1 hj).1
    rw [Deaf_other t (g' := j) (by omega) _ ho]
    exact hA.above i hi
end
end Go.Proofs.Ytfhcpehfmecpjaa
/- The program ends well where its twin does: along the tree, in three modes. -/
namespace Go.Proofs.Ytfhcpehfmecpjaa
open Go.Conc
open Go.ConcN (sumTo upd sumTo_upd upd_ne upd_same)

section
variable {ok : Op → Bool} {F : FuncId → List Lp} {S S' : List FuncId} {T : Tables} {f g : Array Func} {fr fr' : Frame} {tops tops' : List Frame} {w w' w₀ w₁ : World} {V : Lp → Frame → List Value → Prop} {Fin : Frame → World → Prop} {Post : Value → World → Prop} {τ₀ : Nat → Question → Nat}
/-- WHAT THE PROGRAM'S CALL OF CELLS DOES: a channel is made, a sender is started, the channel is handed back. -/
def CallP (T : Tables) (f g : Array Func) (ok : Op → Bool) (S : List FuncId) (F : FuncId → List Lp) (V : Lp → Frame → List Value → Prop) (Post : Value → World → Prop) : Prop :=
  ∀ (fr : Frame) (tops : List Frame) (L : Lp) (k : List Item) (vs : List Value) (gs : Array Goroutine) (w₁ : World) (sl : Option (Nat × Nat)) (t : Trace) (q : Nat → Nat) (B : Nat), L ∈ F fr.fn → V L fr vs → Ord ok S fr → fr.mode = .run → Sz ⟨T, f⟩ fr → fr.todo = .inRegion L.o5 [L.o5.size - 1] :: .code L.loop :: k →
    gs[0]? = some (Gr fr tops) → Leavers ⟨T, g⟩ t gs q → Pi B t →
    (∀ j d, Kid ⟨T, g⟩ Post w₁.heap.size j (Gr (fr.finish (.chan (some w₁.heap.size))) tops) vs ((w₁.at d).alloc (.chan 0 #[] false 0 0 false))) →
    (vs = [] → ∀ (j m d : Nat) (gs : Array Goroutine) (sl : Option (Nat × Nat)) (t : Trace) (q : Nat → Nat) (B : Nat), gs[0]? = some (Gr (fr.finish (.chan (some w₁.heap.size))) tops) → Leavers ⟨T, g⟩ t gs q → Pc w₁.heap.size m j B t → w₁.heap.size < B → Win ⟨T, g⟩ Post gs (((w₁.at d).alloc (.chan 0 #[] false 0 0 false)).setChan w₁.heap.size 0 #[] true 0 0 false) sl t) → Win ⟨T, g⟩ Post gs w₁ sl t
/-- What is known at a run's end. -/
def EndP (T : Tables) (f g : Array Func) (ok : Op → Bool) (S : List FuncId) (Fin : Frame → World → Prop) (Post : Value → World → Prop) (w₀ : World) (τ₀ : Nat → Question → Nat) : Prop :=
  ∀ (fr : Frame) (w w₁ : World), Ord ok S fr → fr.mode = .returning → (∀ τ, Ext w τ → Fin fr (Rt w τ)) → Sim (some 0) w w₁ → Jw w₀ w w₁ → w₁.tape = τ₀ → ∃ fn v, g[fr.fn]? = some fn ∧ results fn fr.tmps = pure v ∧ (⟨T, g⟩ : Program).inits.idxOf? fr.fn = none ∧ ∀ d, Post v (w₁.at d)
/-- What both worlds are to one another. -/
structure Rel (w₀ : World) (τ₀ : Nat → Question → Nat) (w w₁ : World) : Prop where
  sim : Sim (some 0) w w₁
  jw : Jw w₀ w w₁
  tape : w₁.tape = τ₀
theorem Rel.at (h : Rel w₀ τ₀ w w₁) (d : Nat) : Rel w₀ τ₀ w (w₁.at d) := ⟨⟨h.sim.os, h.sim.output, h.sim.size, h.sim.block⟩, h.jw, h.tape⟩
/-- The three modes at a node of the tree. -/
structure Node (T : Tables) (f g : Array Func) (ok : Op → Bool) (S S' : List FuncId) (F : FuncId → List Lp) (Fin : Frame → World → Prop) (Post : Value → World → Prop) (w₀ : World) (τ₀ : Nat → Question → Nat) (fr : Frame) (tops : List Frame) (w : World) : Prop where
  idle : Id T f S F fr tops → ∀ (gs : Array Goroutine) (w₁ : World) (sl : Option (Nat × Nat)) (t : Trace) (q : Nat → Nat) (B : Nat), gs[0]? = some (Gr fr tops) → Leavers ⟨T, g⟩ t gs q → Pi B t → Rel w₀ τ₀ w w₁ → Win ⟨T, g⟩ Post gs w₁ sl t
  shut : ∀ (c : Nat), Hd T f S S' F c fr tops → New w₀ c → ∀ (cap s r s₁ r₁ j m : Nat) (gs : Array Goroutine) (w₁ : World) (sl : Option (Nat × Nat)) (t : Trace) (q : Nat → Nat) (B : Nat), w.heap[c]? = some (.chan cap #[] true s r false) → w₁.heap[c]? = some (.chan 0 #[] true s₁ r₁ false) →
    gs[0]? = some (Gr fr tops) → Leavers ⟨T, g⟩ t gs q → Pc c m j B t → c < B → Rel w₀ τ₀ w w₁ → Win ⟨T, g⟩ Post gs w₁ sl t
  run : ∀ (c : Nat), Hd T f S S' F c fr tops → New w₀ c → ∀ (cap s r s₁ r₁ j : Nat) (vs : List Value) (w₁ : World), w.heap[c]? = some (.chan cap vs.toArray true s r false) → Open c s₁ r₁ w₁ → Rel w₀ τ₀ w w₁ → Kid ⟨T, g⟩ Post c j (Gr fr tops) vs w₁
/-- A place beside a sender: what is wanted once it has closed. -/
theorem shutw_of {c j cap s r : Nat} (hE : Env T f g ok S S' F) (hc : w.heap[c]? = some (.chan cap #[] true s r false)) (hnew : New w₀ c) {a : Goroutine}
    (h : ∀ (s₁ r₁ m : Nat) (gs : Array Goroutine) (w₁ : World) (sl : Option (Nat × Nat)) (t : Trace) (q : Nat → Nat) (B : Nat), w₁.heap[c]? = some (.chan 0 #[] true s₁ r₁ false) → gs[0]? = some a → Leavers ⟨T, g⟩ t gs q → Pc c m j B t → c < B → Rel w₀ τ₀ w w₁ → Win ⟨T, g⟩ Post gs w₁ sl t) :
    ∀ (w₁ : World) (s₁ r₁ : Nat), Rel w₀ τ₀ w w₁ → Open c s₁ r₁ w₁ → Shutw ⟨T, g⟩ Post c j a (w₁.setChan c 0 #[] true s₁ r₁ false) := by
  intro w₁ s₁ r₁ hR ho gs t q B n sl b' fn pos hA h0 hj hq
  obtain ⟨hL, hP⟩ := shut_leavers hA hj hq fn pos
  exact h s₁ r₁ t.size gs _ sl _ _ B (set_same ho) h0 hL hP hA.cB ⟨sim_set1 hR.sim hc ho, jw_set1 hR.jw hnew, hR.tape⟩
theorem node_fin (hE : Env T f g ok S S' F) (hEnd : EndP T f g ok S Fin Post w₀ τ₀) (hm : fr.mode ≠ .run) (ho : Ord ok S fr) (hT : Tm2 ⟨T, f⟩ Fin fr [] w) : Node T f g ok S S' F Fin Post w₀ τ₀ fr [] w := by
  have no : ∀ c, Hd T f S S' F c fr [] → False := fun c h => by
    obtain ⟨x, L, hL, k, hk, hh⟩ := h.held
    exact hh.ne hm rfl
  refine ⟨fun hi gs w₁ sl t q B h0 hL hP hR => ?_, fun c h => (no c h).elim, fun c h => (no c h).elim⟩
  obtain ⟨_, fn0, k2, _⟩ := (hE.fine fr.fn ho.fn).1
  obtain ⟨hm', hf⟩ := sent_end ho ⟨fn0, k2⟩ hm hT
  obtain ⟨fn, v, e1, e2, e3, e4⟩ := hEnd fr w w₁ ho hm' hf hR.sim hR.jw hR.tape
  exact end_win ho hm' e1 e2 e3 h0 hL hP.1 e4
theorem node_step (hE : Env T f g ok S S' F) (ho : Ord ok S fr) (ht : ∀ t ∈ tops, Ord ok S t ∧ t.mode = .run) (hT : Tm2 ⟨T, f⟩ Fin fr tops w) (hsp : ¬ Spec ⟨T, f⟩ S fr tops)
    (N : (τ : Nat → Question → Nat) → Ext w τ → Frame × List Frame × World × Array Event) (he : ∀ τ hx, stepG ⟨T, f⟩ true (Gr fr (tops ++ [sent ⟨T, f⟩])) (Rt w τ) = .go (Gr (N τ hx).1 ((N τ hx).2.1 ++ [sent ⟨T, f⟩])) (N τ hx).2.2.1 (N τ hx).2.2.2)
    (hs : ∀ τ hx, Ord ok S (N τ hx).1 → (∀ t ∈ (N τ hx).2.1, Ord ok S t ∧ t.mode = .run) → Tm2 ⟨T, f⟩ Fin (N τ hx).1 (N τ hx).2.1 (N τ hx).2.2.1 → Node T f g ok S S' F Fin Post w₀ τ₀ (N τ hx).1 (N τ hx).2.1 (N τ hx).2.2.1) : Node T f g ok S S' F Fin Post w₀ τ₀ fr tops w := by
  have kid : ∀ (d : Nat) (w₁ : World) fr' tops' w' es, stepG ⟨T, f⟩ true (Gr fr (tops ++ [sent ⟨T, f⟩])) (Rt w (glue w w₁ d)) = .go (Gr fr' (tops' ++ [sent ⟨T, f⟩])) w' es → Ord ok S fr' → (∀ t ∈ tops', Ord ok S t ∧ t.mode = .run) → Tm2 ⟨T, f⟩ Fin fr' tops' w' → Node T f g ok S S' F Fin Post w₀ τ₀ fr' tops' w' := by
    intro d w₁ fr' tops' w' es e h1 h2 h3
    have q := he (glue w w₁ d) (glue_ext w w₁ d)
    rw [e] at q
    injection q with q1 q2 q3
    injection q1 with q4 q5
    have q6 := List.append_cancel_right q5
    have := hs (glue w w₁ d) (glue_ext w w₁ d)
    rw [← q4, ← q6, ← q2] at this
    exact this h1 h2 h3
  have hsh : ∀ (c : Nat), Hd T f S S' F c fr tops → New w₀ c → ∀ (cap s r s₁ r₁ j m : Nat) (gs : Array Goroutine) (w₁ : World) (sl : Option (Nat × Nat)) (t : Trace) (q : Nat → Nat) (B : Nat), w.heap[c]? = some (.chan cap #[] true s r false) → w₁.heap[c]? = some (.chan 0 #[] true s₁ r₁ false) →
      gs[0]? = some (Gr fr tops) → Leavers ⟨T, g⟩ t gs q → Pc c m j B t → c < B → Rel w₀ τ₀ w w₁ → Win ⟨T, g⟩ Post gs w₁ sl t := by
    intro c hh hnew cap s r s₁ r₁ j m gs w₁ sl t q B hc hc₁ h0 hL hP hB hR
    refine idle_one (Φ := fun B t => Pc c m j B t ∧ c < B) (J := fun w w₁ => Jw w₀ w w₁ ∧ w.heap[c]? = some (.chan cap #[] true s r false) ∧ w₁.heap[c]? = some (.chan 0 #[] true s₁ r₁ false)) ⟨fun h hi hm => ⟨(keeps_pc c m j).mute h.1 hi hm, h.2⟩, fun h hB hq hl => ⟨(keeps_pc c m j).own h.1 hB hq hl, Nat.lt_of_lt_of_le h.2 hB⟩⟩ hE.fine hE.st hE.st₁
      (fun a a₁ b b₁ hj k k₁ => ⟨hj.1.kc k k₁, (k _ _ _ _ _ _ _).2 hj.2.1, (k₁ _ _ _ _ _ _ _).2 hj.2.2⟩) hsp ho ht hT h0 hL ⟨hP, hB⟩ hR.sim hR.tape ⟨hR.jw, hc, hc₁⟩ ?_
    intro d fr' tops' w' w₁' es gs' sl' t' q' B' e nr kc h1 h2 hT' h0' hsz hL' hP' hS' htp hj'
    obtain ⟨c1, c2⟩ := calm_next hE ho ht hsp e hT'
    exact (kid d w₁ _ _ _ _ e h1 h2 hT').shut c (hh.near hE ho ht hsp nr e c1 c2) hnew cap s r s₁ r₁ j m gs' w₁' sl' t' q' B' hj'.2.1 hj'.2.2 h0' hL' hP'.1 hP'.2 ⟨hS', hj'.1, htp⟩
  refine ⟨fun hi gs w₁ sl t q B h0 hL hP hR => ?_, hsh, fun c hh hnew cap s r s₁ r₁ j vs w₁ hc ho₁ hR => ?_⟩
  · refine idle_one (Φ := Pi) (J := Jw w₀) keeps_pi hE.fine hE.st hE.st₁ (fun a a₁ b b₁ hj k k₁ => hj.kc k k₁) hsp ho ht hT h0 hL hP hR.sim hR.tape hR.jw ?_
    intro d fr' tops' w' w₁' es gs' sl' t' q' B' e nr kc h1 h2 hT' h0' hsz hL' hP' hS' htp hj'
    obtain ⟨c1, c2⟩ := calm_next hE ho ht hsp e hT'
    exact (kid d w₁ _ _ _ _ e h1 h2 hT').idle (hi.near (Fin := Fin) hE ho ht hsp nr e c1) gs' w₁' sl' t' q' B' h0' hL' hP' ⟨hS', hj', htp⟩
  · refine place_kid (Wk := Rel w₀ τ₀ w) rfl (fun v d h => h.at d) (.inl ?_) ?_ hR ho₁
    · intro w₂ s₂ r₂ hR₂ ho₂
      obtain ⟨fr', tops', w', w₁', es, e, e', nr, kc, kc', h1, h2, s', t', hq, hT'⟩ := two_step hE hsp ho ht hT hR₂.sim
      obtain ⟨c1, c2⟩ := calm_next hE ho ht hsp e hT'
      have ho₃ : Open c s₂ r₂ w₁' := (kc' _ _ _ _ _ _ _).2 ho₂
      exact ⟨_, _, _, e', hq, ho₃, (kid w₂.drawn w₂ _ _ _ _ e h1 h2 hT').run c (hh.near hE ho ht hsp nr e c1 c2) hnew cap s r s₂ r₂ j vs w₁' ((kc _ _ _ _ _ _ _).2 hc) ho₃ ⟨s', hR₂.jw.kc kc kc', t'.trans hR₂.tape⟩⟩
    · intro hv
      subst hv
      exact shutw_of hE hc hnew (fun s₁ r₁ m gs w₁ sl t q B hc₁ h0 hL hP hB hR => hsh c hh hnew cap s r s₁ r₁ j m gs w₁ sl t q B hc hc₁ h0 hL hP hB hR)
end
end Go.Proofs.Ytfhcpehfmecpjaa
/- The program ends well where its twin does: the leaps; all together. -/
namespace Go.Proofs.Ytfhcpehfmecpjaa
open Go.Conc
open Go.ConcN (sumTo upd sumTo_upd upd_ne upd_same)

section
variable {ok : Op → Bool} {F : FuncId → List Lp} {S S' : List FuncId} {T : Tables} {f g : Array Func} {fr fr' : Frame} {tops tops' : List Frame} {w w' w₀ w₁ : World} {V : Lp → Frame → List Value → Prop} {Fin : Frame → World → Prop} {Post : Value → World → Prop} {τ₀ : Nat → Question → Nat}
theorem same_chan (hE : Env T f g ok S S' F) {x x' : FuncId} {L L' : Lp} (hL : L ∈ F x) (hL' : L' ∈ F x') {k k' : List Item} {c c' : Nat} (e : fr.todo = .inRegion L.ops [0, 1] :: .code (.seq L.test L.body) :: L.tl k) (e' : fr.todo = .inRegion L'.ops [0, 1] :: .code (.seq L'.test L'.body) :: L'.tl k')
    (hs : fr.tmps[L.slot]? = some (.chan (some c))) (hs' : fr.tmps[L'.slot]? = some (.chan (some c'))) : c = c' := by
  have h1 : L.ops = L'.ops := by
    rw [e] at e'
    simp only [List.cons.injEq, Item.inRegion.injEq] at e'
    exact e'.1.1
  obtain ⟨o, ct, el, d, z, o1, o2, _⟩ := hE.rc x L hL
  obtain ⟨o', ct', el', d', z', o1', o2', _⟩ := hE.rc x' L' hL'
  rw [h1, o1'] at o1
  cases o1
  rw [o2'] at o2
  have hsl : L'.slot = L.slot := by
    injection o2 with _ q _
    injection q
  rw [hsl, hs] at hs'
  cases hs'
  rfl
theorem rc_inj {P : Program} {c : Nat} {z z' : Value} (h : AtRc P fr c z) (h' : AtRc P fr c z') (w : World) : z = z' := by
  have := (h true [] w).symm.trans (h' true [] w)
  injection this with _ q
  have q1 : rcase c z = rcase c z' := by simpa using q
  injection q1
theorem not_both {L L' : Lp} {k k' : List Item} (e : fr.todo = .inRegion L.ops [0, 1] :: .code (.seq L.test L.body) :: L.tl k) (e' : fr.todo = .inRegion L'.o5 [L'.o5.size - 1] :: .code L'.loop :: k') : False := by
  rw [e] at e'
  simp at e'
theorem node_jump (hE : Env T f g ok S S' F) (hP : CallP T f g ok S F V Post) (ho : Ord ok S fr) (ht : ∀ t ∈ tops, Ord ok S t ∧ t.mode = .run) (hT : Tm2 ⟨T, f⟩ Fin fr tops w) (hj : Jump T f S F V fr tops w fr' tops' w')
    (hn : Ord ok S fr' → (∀ t ∈ tops', Ord ok S t ∧ t.mode = .run) → Tm2 ⟨T, f⟩ Fin fr' tops' w' → Node T f g ok S S' F Fin Post w₀ τ₀ fr' tops' w') : Node T f g ok S S' F Fin Post w₀ τ₀ fr tops w := by
  cases hj with
  | take x L hL k c₀ cap₀ s₀ r₀ v vs₀ hm hsp e hs hc₀ hl =>
    have hch := hn (ho.finish _) ht (tm_leap hl hT)
    refine ⟨fun hi => ?_, fun c hh hnew cap s r s₁ r₁ j m gs w₁ sl t q B hc => ?_, fun c hh hnew cap s r s₁ r₁ j vs w₁ hc ho₁ hR => ?_⟩
    · obtain ⟨L', hL', k', hk', e'⟩ := hi.top.spec (hE.lq _) hm hsp (hE.o5 _)
      exact (not_both e e').elim
    · obtain ⟨x', L', hL', k', z, _, e', hs', _⟩ := hh.at hE hsp ho
      have := same_chan hE hL hL' e e' hs hs'
      subst this
      rw [hc₀] at hc
      simp at hc
    · obtain ⟨x', L', hL', k', z, _, e', hs', a1, a2, hid, hhd⟩ := hh.at hE hsp ho
      have := same_chan hE hL hL' e e' hs hs'
      subst this
      have hvs : vs = v :: vs₀ := by
        rw [hc₀] at hc
        simp only [Option.some.injEq, Obj.chan.injEq] at hc
        have := hc.2.1
        simpa using this.symm
      refine place_kid (Wk := Rel w₀ τ₀ w) rfl (fun v d h => h.at d) (.inr ⟨z, fun v => a2 true tops v, fun v' vs' hv w₂ s₂ r₂ hR₂ ho₂ => ?_, fun hv => by rw [hvs] at hv; cases hv⟩) (fun hv => by rw [hvs] at hv; cases hv) hR ho₁
      rw [hvs] at hv
      cases hv
      exact hch.run c₀ (hhd v) hnew cap₀ s₀ (r₀ + 1) (s₂ + 1) (r₂ + 1) j vs₀ _ (set_same hc₀) (set_same ho₂) ⟨sim_set hR₂.sim hc₀ ho₂, jw_set hR₂.jw hnew, hR₂.tape⟩
  | shut x L hL k c₀ cap₀ s₀ r₀ z₀ hm hsp e hs hc₀ hz hl =>
    have hch := hn (ho.finish _) ht (tm_leap hl hT)
    have cl : ∀ (c : Nat), Hd T f S S' F c fr tops → ∀ (j s₁ r₁ m : Nat) (a : Goroutine) (gs : Array Goroutine) (w₁ : World) (sl : Option (Nat × Nat)) (t : Trace) (q : Nat → Nat) (B : Nat), a.status = .running → (∀ v, stepG ⟨T, g⟩ true a v = stepG ⟨T, g⟩ true (Gr fr tops) v) → w₁.heap[c]? = some (.chan 0 #[] true s₁ r₁ false) → gs[0]? = some a → Leavers ⟨T, g⟩ t gs q → Pc c m j B t → c < B → Rel w₀ τ₀ w w₁ → Win ⟨T, g⟩ Post gs w₁ sl t := by
      intro c hh j s₁ r₁ m a gs w₁ sl t q B ha hsa hc₁ h0 hL' hP' hB hR
      obtain ⟨x', L', hL'', k', z, _, e', hs', a1, a2, hid, hhd⟩ := hh.at hE hsp ho
      have := same_chan hE hL hL'' e e' hs hs'
      subst this
      have hzz := rc_inj hz a1 w
      subst hzz
      exact closing_recv ha (fun v => (hsa v).trans (a2 true tops v)) h0 hL' hP' hB hc₁ (fun d gs' sl' t' q' B' h0' hL3 hP3 => hch.idle hid gs' _ sl' t' q' B' h0' hL3 hP3 (hR.at d))
    refine ⟨fun hi => ?_, fun c hh hnew cap s r s₁ r₁ j m gs w₁ sl t q B hc hc₁ h0 hL' hP' hB hR => cl c hh j s₁ r₁ m _ gs w₁ sl t q B rfl (fun _ => rfl) hc₁ h0 hL' hP' hB hR, fun c hh hnew cap s r s₁ r₁ j vs w₁ hc ho₁ hR => ?_⟩
    · obtain ⟨L', hL', k', hk', e'⟩ := hi.top.spec (hE.lq _) hm hsp (hE.o5 _)
      exact (not_both e e').elim
    · obtain ⟨x', L', hL', k', z, _, e', hs', a1, a2, hid, hhd⟩ := hh.at hE hsp ho
      have := same_chan hE hL hL' e e' hs hs'
      subst this
      have hvs : vs = [] := by
        rw [hc₀] at hc
        simp only [Option.some.injEq, Obj.chan.injEq] at hc
        have := hc.2.1
        simpa using this.symm
      subst hvs
      refine place_kid (Wk := Rel w₀ τ₀ w) rfl (fun v d h => h.at d) (.inr ⟨z, fun v => a2 true tops v, fun v' vs' hv => (by cases hv), fun _ => ?_⟩) (fun _ => ?_) hR ho₁
      · exact shutw_of hE hc hnew (fun s₁ r₁ m gs w₁ sl t q B hc₁ h0 hL' hP' hB hR => cl c₀ hh j s₁ r₁ m { parked (Gr fr tops) #[rcase c₀ z] (.recv true) with status := .running } gs w₁ sl t q B rfl (fun _ => rfl) hc₁ h0 hL' hP' hB hR)
      · exact shutw_of hE hc hnew (fun s₁ r₁ m gs w₁ sl t q B hc₁ h0 hL' hP' hB hR => cl c₀ hh j s₁ r₁ m _ gs w₁ sl t q B rfl (fun _ => rfl) hc₁ h0 hL' hP' hB hR)
  | made L hL k vs cap n hv hm hsp e hk hl =>
    have hch := hn (ho.finish _) ht (tm_leap hl hT)
    have no : ∀ c, Hd T f S S' F c fr tops → False := fun c hh => by
      obtain ⟨x', L', hL', k', z, _, e', _⟩ := hh.at hE hsp ho
      exact not_both e' e
    refine ⟨fun hi gs w₁ sl t q B h0 hL' hP' hR => ?_, fun c hh => (no c hh).elim, fun c hh => (no c hh).elim⟩
    have hsz : w₁.heap.size = w.heap.size := hR.sim.size
    have hnew : New w₀ w.heap.size := fun c bf cl s r tm q => by
      have := (Array.getElem?_eq_some_iff.1 (hR.jw _ _ _ _ _ _ _ q).1).1
      omega
    have e1 : (w.alloc (.chan cap vs.toArray true n 0 false)).heap[w.heap.size]? = some (.chan cap vs.toArray true n 0 false) := by
      show (w.heap.push _)[w.heap.size]? = _
      simp
    have e2 : ∀ d, ((w₁.at d).alloc (.chan 0 #[] false 0 0 false)).heap[w.heap.size]? = some (.chan 0 #[] false 0 0 false) := fun d => by
      show (w₁.heap.push _)[w.heap.size]? = _
      rw [← hsz]
      simp
    have old : ∀ d b, b ≠ w.heap.size → (w.alloc (.chan cap vs.toArray true n 0 false)).heap[b]? = w.heap[b]? ∧ ((w₁.at d).alloc (.chan 0 #[] false 0 0 false)).heap[b]? = w₁.heap[b]? := fun d b hb => by
      constructor
      · show (w.heap.push _)[b]? = _
        rw [Array.getElem?_push, if_neg (by omega)]
      · show (w₁.heap.push _)[b]? = _
        rw [Array.getElem?_push, if_neg (by omega)]
    have hrel : ∀ d, Rel w₀ τ₀ (w.alloc (.chan cap vs.toArray true n 0 false)) ((w₁.at d).alloc (.chan 0 #[] false 0 0 false)) := by
      intro d
      refine ⟨⟨hR.sim.os, hR.sim.output, ?_, fun b => ?_⟩, fun b c bf cl s r tm q => ?_, hR.tape⟩
      · show (w₁.heap.push _).size = (w.heap.push _).size
        simp [hsz]
      · by_cases hb : b = w.heap.size
        · subst hb
          exact .inr ⟨⟨0, rfl, Nat.zero_le _⟩, ⟨_, _, _, _, _, _, e1⟩, ⟨_, _, _, _, _, _, e2 d⟩⟩
        · rw [(old d b hb).1, (old d b hb).2]
          exact hR.sim.block b
      · have hb : b ≠ w.heap.size := fun e => hnew c bf cl s r tm (e ▸ q)
        rw [(old d b hb).1, (old d b hb).2]
        exact hR.jw _ _ _ _ _ _ _ q
    refine hP fr tops L k vs gs w₁ sl t q B hL hv ho hm hi.sz e h0 hL' hP' (fun j d => ?_) (fun hv' j m d gs sl t q B h0' hL3 hP3 hB3 => ?_)
    · rw [hsz]
      exact hch.run w.heap.size (made_hd hE ho hi hL hk hm e _) hnew cap n 0 0 0 j vs _ e1 (e2 d) (hrel d)
    · rw [hsz] at h0' hP3 hB3 ⊢
      have e3 := e1.trans (show _ = some (Obj.chan cap #[] true n 0 false) by rw [hv'])
      exact hch.shut w.heap.size (made_hd hE ho hi hL hk hm e _) hnew cap n 0 0 0 j m gs _ sl t q B e3 (set_same (e2 d)) h0' hL3 hP3 hB3 ⟨sim_set1 (hrel d).sim e1 (e2 d), jw_set1 (hrel d).jw hnew, (hrel d).tape⟩
/-- ████ ALONG THE WHOLE TREE. ████ -/
theorem nodes (hE : Env T f g ok S S' F) (hP : CallP T f g ok S F V Post) (hEnd : EndP T f g ok S Fin Post w₀ τ₀) (h : Tree ⟨T, f⟩ S (Jump T f S F V) fr tops w) : Ord ok S fr → (∀ t ∈ tops, Ord ok S t ∧ t.mode = .run) → Tm2 ⟨T, f⟩ Fin fr tops w → Node T f g ok S S' F Fin Post w₀ τ₀ fr tops w := by
  induction h with
  | fin hm => exact fun ho _ hT => node_fin hE hEnd hm ho hT
  | step N he hs hsp ih => exact fun ho ht hT => node_step hE ho ht hT hsp N he ih
  | jump hj hs ih => exact fun ho ht hT => node_jump hE hP ho ht hT hj ih
/-- ████ WHERE THE TWIN COMES TO ITS END ON EVERY TAPE, THE PROGRAM'S RUN ENDS WELL. ████ -/
theorem wins (hE : Env T f g ok S S' F) (hC : CallT T f ok S F V) (hP : CallP T f g ok S F V Post) {L : FuncId} {args : Array Value} {Q : World → Value → World → Prop} (hL : L ∈ S) (hcalls : ∀ τ, Calls ⟨T, f⟩ L args (Rt w₀ τ) fun e w' => ∃ v, e = .returned v ∧ Q (Rt w₀ τ) v w') (hd : w₀.drawn = 0)
    (hEnd : EndP T f g ok S (fun fr w' => ∃ τ v fn, fr.fn = L ∧ f[L]? = some fn ∧ (results fn fr.tmps).run ⟨T, f⟩ w' = .ok v w' ∧ Q (Rt w₀ τ) v w') Post w₀ w₀.tape) {sl : Option (Nat × Nat)} {t : Trace} {B : Nat} (hPi : Pi B t) (hdeaf : ∀ j, 0 < j → Deaf t j = 0) :
    Win ⟨T, g⟩ Post #[Gr (Frame.enter ⟨T, g⟩ L args .normal) []] w₀ sl t := by
  have hT := tm_begin (T := T) (f := f) hcalls hd
  have ho : Ord ok S (Frame.enter ⟨T, f⟩ L args .normal) := enter_ord hL (hE.ff L hL)
  have hid : Id T f S F (Frame.enter ⟨T, f⟩ L args .normal) [] := by
    refine ⟨hE.ent L hL args, by simp, fun fn q => ?_, by simp⟩
    have q' : f[L]? = some fn := q
    simp only [Frame.enter, q', Option.map_some, Option.getD_some, Array.size_append, Array.size_replicate]
    omega
  have hn := nodes hE hP hEnd (tree hE hC ho (by simp) (.inl hid) hT) ho (by simp) hT
  rw [enter_two (T := T) (hE.fine L hL).1.1]
  refine hn.idle hid _ w₀ sl t (fun _ => 0) B rfl ⟨fun i x hi hx => ?_, fun j hj => hdeaf j (show 1 ≤ j from hj)⟩ hPi ⟨Sim.refl _, fun b c bf cl s r tm e => ⟨e, e⟩, rfl⟩
  rw [Array.getElem?_eq_none (by show 1 ≤ i; omega)] at hx
  cases hx
end
end Go.Proofs.Ytfhcpehfmecpjaa
/- Work that looks at nothing but the program's tables: it does the same in every world. -/
namespace Go.Proofs.Ytfhcpehfmecpjaa
open Go.Conc

/-- Values that lead to no memory. -/
inductive Plain : Value → Prop
  | int (k : IntKind) (n : Int) : Plain (.int k n)
  | bool (b : Bool) : Plain (.bool b)
  | chan (r : Option Nat) : Plain (.chan r)
  | agg (cs : Array Value) : Plain (.agg cs)
  | tuple (vs : Array Value) (h : ∀ x ∈ vs, Plain x) : Plain (.tuple vs)
theorem plain_undef : Plain undef := .tuple _ (fun x hx => by simp at hx)
def stopsF : Halt → Prop
  | .panic _ | .stuck _ => True
  | .unsupported u => ∀ b, u ≠ .initOrder b
  | _ => False
/-- WORK THAT LOOKS AT THE TABLES ALONE; its answer satisfies Q. -/
def FreeP {α : Type} (P : Program) (Q : α → Prop) : Sem α → Prop
  | .pure a => Q a
  | .program k => FreeP P Q (k P)
  | .halt h => stopsF h
  | _ => False
theorem free_run {α : Type} {P : Program} {Q : α → Prop} (s : Sem α) (h : FreeP P Q s) : (∃ a, Q a ∧ ∀ w es, s.runT P w es = (.ok a w, es)) ∨ ∃ x, stopsF x ∧ ∀ w es, s.runT P w es = (.halt x w, es) := by
  induction s with
  | pure a => exact .inl ⟨a, h, fun _ _ => rfl⟩
  | program k ih =>
    rcases ih P h with ⟨a, q, e⟩ | ⟨x, q, e⟩
    · exact .inl ⟨a, q, fun w es => by simp only [Sem.runT]; exact e w es⟩
    · exact .inr ⟨x, q, fun w es => by simp only [Sem.runT]; exact e w es⟩
  | halt x => exact .inr ⟨x, h, fun _ _ => rfl⟩
  | _ => exact h.elim
section
variable {P : Program} {α β : Type} {Q : α → Prop} {R : β → Prop}
theorem fq {s : Sem α} {k : α → Sem β} (h : FreeP P Q s) (hk : ∀ a, Q a → FreeP P R (k a)) : FreeP P R (s >>= k) := by
  show FreeP P R (s.bind k)
  induction s with
  | pure a => exact hk a h
  | program j ih => exact ih P h
  | halt x => exact h
  | _ => exact h.elim
theorem fm {s : Sem α} {k : α → β} (h : FreeP P Q s) (hk : ∀ a, Q a → R (k a)) : FreeP P R (k <$> s) := by
  show FreeP P R (s.bind fun a => .pure (k a))
  exact fq h (fun a q => hk a q)
theorem fp {a : α} (h : Q a) : FreeP P Q (pure a : Sem α) := h
theorem fstuck (s : String) : FreeP P Q (stuck s : Sem α) := trivial
theorem fprog {k : Program → Sem α} (h : FreeP P Q (k P)) : FreeP P Q (program >>= k) := h
theorem ftypeInfo (t : TypeId) : FreeP P (fun _ => True) (typeInfo t) := by
  unfold typeInfo
  refine fprog ?_
  split
  · exact trivial
  · exact fstuck _
theorem funderlying (t : TypeId) : FreeP P (fun d => P.underlying t = some d) (underlying t) := by
  unfold underlying
  refine fprog ?_
  split
  · rename_i e; exact e
  · exact fstuck _
theorem fzero (t : TypeId) : FreeP P (fun _ => True) (zeroValue t) := by
  unfold zeroValue
  refine fq (ftypeInfo t) (fun a _ => ?_)
  split
  · exact trivial
  · exact fun b e => by cases e
theorem fsize (t : TypeId) : FreeP P (fun _ => True) (sizeOf t) := by
  unfold sizeOf
  exact fm (ftypeInfo t) (fun _ _ => trivial)
end
end Go.Proofs.Ytfhcpehfmecpjaa
/- Operations on numbers, flags and pairs: they do the same in every world. -/
namespace Go.Proofs.Ytfhcpehfmecpjaa
open Go.Conc

def okX : Operand → Bool
  | .tmp _ => true
  | .const (.int _ _) | .const (.bool _) | .const (.chan none) => true
  | _ => false
/-- An operation on plain values. -/
def freeOp (P : Program) (S : List FuncId) : Op → Bool
  | .move x | .assign x => okX x
  | .pick c a b => okX a && okX b
  | .binOp op t x y _ => okX x && okX y && (match op with | .add | .sub | .mul | .quo | .rem | .lss | .leq | .gtr | .geq | .eql | .neq => true | _ => false) && (match P.underlying t with | some (.int _) => true | _ => false)
  | .unOp op _ x => okX x && (op == .not)
  | .build _ _ => true
  | .extract x _ => okX x
  | .call { callee := .builtin .min, args := as, .. } => as.all okX
  | .call { callee := .value (.func f), args := as, .. } => S.contains f && as.all okX
  | _ => false
/-- What such an operation comes to. -/
def NextP (S : List FuncId) : Next → Prop
  | .value v => Plain v
  | .enter f as => f ∈ S ∧ ∀ x ∈ as, Plain x
  | _ => False
section
variable {P : Program} {S : List FuncId}
theorem plain_eval {fr : Frame} (h : ∀ x ∈ fr.tmps, Plain x) {x : Operand} (hx : okX x = true) : Plain (fr.eval x) := by
  unfold okX at hx
  split at hx
  · show Plain (fr.tmps.getD _ undef)
    rename_i t
    rw [Array.getD_eq_getD_getElem?]
    cases e : fr.tmps[t]? with
    | none => exact plain_undef
    | some v => exact h v (Array.mem_of_getElem? e)
  · exact .int _ _
  · exact .bool _
  · exact .chan _
  · cases hx
theorem fmapML {γ β : Type} {R : β → Prop} {l : List γ} {k : γ → Sem β} (hk : ∀ a, FreeP P R (k a)) : FreeP P (fun _ => True) (l.mapM k) := by
  induction l with
  | nil => exact trivial
  | cons a l ih =>
    rw [List.mapM_cons]
    exact fq (hk a) (fun _ _ => fq ih (fun _ _ => trivial))
theorem fmapMA {γ β : Type} {R : β → Prop} {l : Array γ} {k : γ → Sem β} (hk : ∀ a, FreeP P R (k a)) : FreeP P (fun _ => True) (l.mapM k) := by
  rw [Array.mapM_eq_mapM_toList]
  exact fm (fmapML hk) (fun _ _ => trivial)
theorem f_build (t : TypeId) (parts : Array (Nat × Value)) : FreeP P Plain (Instr.build t parts) := by
  unfold Instr.build
  refine fq (fzero t) (fun z _ => fq (funderlying t) (fun d _ => ?_))
  split
  · refine fq (fmapMA (R := fun _ => True) (fun a => fq (fsize _) (fun _ _ => trivial))) (fun pl _ => ?_)
    split
    · exact Plain.agg _
    · exact fstuck _
  · refine fq (fsize _) (fun n _ => ?_)
    split
    · exact Plain.agg _
    · exact fstuck _
  · exact fstuck _
theorem f_extract {v : Value} (h : Plain v) (i : Nat) : FreeP P Plain (Instr.extract v i) := by
  unfold Instr.extract
  split
  · rename_i vs
    split
    · rename_i x e
      cases h with
      | tuple _ h => exact h _ (Array.mem_of_getElem? e)
    · exact fstuck _
  · exact fstuck _
theorem f_min {l : List Value} (h : ∀ x ∈ l, Plain x) : ∀ x, Plain x → FreeP P Plain (l.foldlM Builtin.min2 x) := by
  induction l with
  | nil => exact fun x hx => hx
  | cons a l ih =>
    intro x hx
    rw [List.foldlM_cons]
    refine fq (Q := Plain) ?_ (fun y hy => ih (fun z hz => h z (.tail _ hz)) y hy)
    have ha := h a (.head _)
    cases hx <;> cases ha <;> first | exact Plain.int _ _ | exact fstuck _
theorem f_equal {t : TypeId} {k : IntKind} (hu : P.underlying t = some (.int k)) (x y : Value) (hx : Plain x) (hy : Plain y) : FreeP P (fun _ => True) (Op.equal t x y) := by
  show FreeP P _ (Op.equalIn (9999 + 1) t x y)
  unfold Op.equalIn
  unfold underlying
  simp only [bind_assoc]
  refine fprog ?_
  simp only [hu, pure_bind]
  cases hx <;> cases hy <;> first | exact trivial | exact fstuck _ | (dsimp only; split <;> first | exact trivial | exact fstuck _)
theorem f_binOp {op : BinOp} {t : TypeId} {k : IntKind} (hop : (match op with | .add | .sub | .mul | .quo | .rem | .lss | .leq | .gtr | .geq | .eql | .neq => true | _ => false) = true) (hu : P.underlying t = some (.int k)) {x y : Value} (hx : Plain x) (hy : Plain y) : FreeP P Plain (binOp op t x y) := by
  have he := f_equal (P := P) hu x y hx hy
  cases hx with
  | int k1 a =>
    cases hy with
    | int k2 b =>
      unfold binOp
      cases op <;> first | (cases hop; done) | skip
      all_goals dsimp only
      all_goals split <;> first | exact fstuck _ | skip
      all_goals first
        | exact Plain.int _ _
        | exact Plain.bool _
        | (unfold Op.intDiv; dsimp only; split <;> first | exact trivial | exact Plain.int _ _)
    | _ => cases op <;> first | (cases hop; done) | exact fstuck _ | exact fq he (fun _ _ => Plain.bool _)
  | bool b => cases hy <;> cases op <;> first | (cases hop; done) | exact fstuck _ | exact fq he (fun _ _ => Plain.bool _)
  | chan r => cases hy <;> cases op <;> first | (cases hop; done) | exact fstuck _ | exact fq he (fun _ _ => Plain.bool _)
  | agg cs => cases hy <;> cases op <;> first | (cases hop; done) | exact fstuck _ | exact fq he (fun _ _ => Plain.bool _)
  | tuple vs hv => cases hy <;> cases op <;> first | (cases hop; done) | exact fstuck _ | exact fq he (fun _ _ => Plain.bool _)
theorem f_eqGuardIn {t : TypeId} {k : IntKind} (hu : P.underlying t = some (.int k)) (x y : Value) : FreeP P (fun _ => True) (Op.eqGuardIn Op.maxDepth t x y) := by
  show FreeP P _ (Op.eqGuardIn (9999 + 1) t x y)
  unfold Op.eqGuardIn
  unfold underlying
  simp only [bind_assoc]
  refine fprog ?_
  simp only [hu, pure_bind]
  exact trivial
theorem f_eqGuard {op : BinOp} {t : TypeId} {k : IntKind} (hu : P.underlying t = some (.int k)) (x y : Operand) {a b : Value} (ha : Plain a) (hb : Plain b) : FreeP P (fun _ => True) (eqGuard op t x y a b) := by
  have h1 := fun x y => f_eqGuardIn (P := P) hu x y
  unfold eqGuard
  cases op <;> first | exact trivial | skip
  all_goals cases ha <;> first | exact trivial | skip
  all_goals cases hb <;> first | exact trivial | skip
  all_goals
    repeat' first
      | contradiction
      | exact trivial
      | (with_reducible refine fprog ?_)
      | exact h1 _ _
      | (with_reducible refine fq (h1 _ _) ?_)
      | (with_reducible intro _)
      | (exact fun b e => by cases e)
      | split
      | (dsimp only)
theorem f_unary {x : Value} (hx : Plain x) : FreeP P Plain (Op.unary .not x) := by
  unfold Op.unary
  cases hx <;> first | exact Plain.bool _ | exact fstuck _
theorem fv {s : Sem Value} (h : FreeP P Plain s) : FreeP P (NextP S) (do pure (.value (← s))) := fq h (fun _ q => q)
/-- SUCH AN OPERATION. -/
theorem free_op {fs : Array Func} {T : Tables} {fr : Frame} {o : Oper} (hp : ∀ x ∈ fr.tmps, Plain x) (h : freeOp ⟨T, fs⟩ S o.op = true) (hS : ∀ x ∈ S, Known fs fs x) : FreeP ⟨T, fs⟩ (NextP S) (execOp fr.eval o) := by
  unfold freeOp at h
  unfold execOp
  split at h
  all_goals rename_i e
  all_goals simp only [e]
  · exact plain_eval hp h
  · exact plain_eval hp h
  · simp only [Bool.and_eq_true] at h
    refine fq (Q := fun _ => True) ?_ (fun b _ => ?_)
    · unfold asBool
      split <;> first | exact trivial | exact fstuck _
    · cases b
      · exact plain_eval hp h.2
      · exact plain_eval hp h.1
  · simp only [Bool.and_eq_true] at h
    obtain ⟨⟨⟨h1, h2⟩, h3⟩, h4⟩ := h
    split at h4
    · rename_i k hu
      exact fv (fq (f_eqGuard hu _ _ (plain_eval hp h1) (plain_eval hp h2)) (fun _ _ => f_binOp h3 hu (plain_eval hp h1) (plain_eval hp h2)))
    · cases h4
  · simp only [Bool.and_eq_true, beq_iff_eq] at h
    obtain ⟨h1, h2⟩ := h
    subst h2
    exact fv (f_unary (plain_eval hp h1))
  · exact fv (f_build _ _)
  · exact fv (f_extract (plain_eval hp h) _)
  · rename_i as ts
    show FreeP ⟨T, fs⟩ (NextP S) (do pure (.value (← Builtin.min_ ts o.type (as.map fr.eval))))
    refine fv ?_
    have hall : ∀ x ∈ (as.map fr.eval).toList, Plain x := fun x hx => by
      rw [Array.mem_toList_iff] at hx
      obtain ⟨y, hy, rfl⟩ := Array.mem_map.1 hx
      exact plain_eval hp (Array.all_eq_true_iff_forall_mem.1 h y hy)
    unfold Builtin.min_
    generalize (as.map fr.eval).toList = l at hall
    cases l with
    | nil => exact fstuck _
    | cons a l => exact f_min (fun z hz => hall z (.tail _ hz)) a (hall a (.head _))
  · rename_i x as ts
    simp only [Bool.and_eq_true] at h
    have hx : x ∈ S := by simpa using h.1
    obtain ⟨k1, fn, k2, k3, k4⟩ := hS x hx
    have e1 : resolve fr.eval { callee := .value (.func x), args := as, argTypes := ts } o.type = pure { target := .fn (.func x) #[], args := #[] ++ as.map fr.eval } := rfl
    rw [e1]
    show FreeP ⟨T, fs⟩ (NextP S) (callFunc x _)
    unfold callFunc
    refine fprog ?_
    dsimp only
    rw [k2]
    dsimp only
    rw [k4, if_neg (by simp), k3, if_neg (by simp)]
    refine ⟨hx, fun y hy => ?_⟩
    simp only [Array.empty_append, Array.append_empty] at hy
    obtain ⟨z, hz, rfl⟩ := Array.mem_map.1 hy
    exact plain_eval hp (Array.all_eq_true_iff_forall_mem.1 h.2 z hz)
  · cases h
end
end Go.Proofs.Ytfhcpehfmecpjaa
