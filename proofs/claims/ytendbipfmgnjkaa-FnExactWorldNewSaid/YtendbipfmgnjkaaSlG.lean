/- Stretches of memory: what lies in each, all apart; what is put into one leaves the others as they are. -/
import Derived.Test.YtendbipfmgnjkaaMemA
import Derived.Test.YtendbipfmgnjkaaNestA
namespace Go.Proofs.Ytendbipfmgnjkaa
set_option maxRecDepth 100000
open Go.RowKit

/-- Something that lies in the blocks from lo to hi. -/
structure Str where
  p : World → Prop
  lo : Nat
  hi : Nat
def Str.Loc (s : Str) : Prop := ∀ W W' l h, s.p W → Turned W W' l h → (s.hi ≤ l ∨ h ≤ s.lo) → s.p W'
/-- A box. -/
abbrev bxS (b : Nat) (X : List Value) : Str := ⟨fun W => WCells W b X, b, b + 1⟩
/-- A row. -/
abbrev rwS (va : Option Addr) (X : List Value) (lo hi : Nat) : Str := ⟨fun W => FRw W va X lo hi, lo, hi⟩
theorem bxS.loc (b : Nat) (X : List Value) : (bxS b X).Loc := fun _ _ _ _ h t hd => h.turned t (by rcases hd with h | h <;> (dsimp only [bxS] at h; omega))
theorem rwS.loc (va : Option Addr) (X : List Value) (lo hi : Nat) : (rwS va X lo hi).Loc := fun _ _ l h hp t hd => by
  rcases hp with e | ⟨g, h1, h2, h3, h4⟩
  · exact .inl e
  · exact .inr ⟨g, h1, h2, h3, h4.turned t (by rcases hd with e | e <;> (dsimp only [rwS] at e; omega))⟩
structure SL (w0 W : World) (S : List Str) : Prop where
  bel : Below w0.heap.size w0 W
  is : ∀ s ∈ S, s.p W ∧ s.Loc ∧ w0.heap.size ≤ s.lo ∧ s.hi ≤ W.heap.size
  apart : S.Pairwise fun s t => s.hi ≤ t.lo ∨ t.hi ≤ s.lo
section
variable {w0 W W' : World} {S : List Str} {s t : Str}
theorem SL.tail (h : SL w0 W (s :: S)) : SL w0 W S := ⟨h.bel, fun x hx => h.is x (List.mem_cons_of_mem _ hx), (List.pairwise_cons.1 h.apart).2⟩
theorem SL.start (w : World) : SL w w [] := ⟨Below.refl _ _, fun _ h => (by cases h), .nil⟩
theorem SL.below (h : SL w0 W S) (hb : Below W.heap.size W W') : SL w0 W' S :=
  ⟨h.bel.trans (hb.mono h.bel.size), fun s hs => ⟨(h.is s hs).2.1 W W' W'.heap.size W'.heap.size (h.is s hs).1 (Turned.of_below hb _ _) (.inl (Nat.le_trans (h.is s hs).2.2.2 hb.size)), (h.is s hs).2.1, (h.is s hs).2.2.1, Nat.le_trans (h.is s hs).2.2.2 hb.size⟩, h.apart⟩
theorem SL.drew (h : SL w0 W S) : SL w0 W.drew S := h.below (Below.drew (Below.refl _ _))
/-- What a call has made. -/
theorem SL.add (h : SL w0 W S) (hb : Below W.heap.size W W') (hp : s.p W') (hl : s.Loc) (h1 : W.heap.size ≤ s.lo) (h2 : s.hi ≤ W'.heap.size) : SL w0 W' (s :: S) := by
  have k := h.below hb
  refine ⟨k.bel, fun x hx => ?_, List.pairwise_cons.2 ⟨fun x hx => .inr (Nat.le_trans (h.is x hx).2.2.2 h1), h.apart⟩⟩
  rcases List.mem_cons.1 hx with rfl | hx
  · exact ⟨hp, hl, Nat.le_trans h.bel.size h1, h2⟩
  · exact k.is x hx
theorem SL.add2 (h : SL w0 W S) (hb : Below W.heap.size W W') (hp : s.p W') (hl : s.Loc) (h1 : W.heap.size ≤ s.lo) (h2 : s.hi ≤ W'.heap.size) (kp : t.p W') (kl : t.Loc) (k1 : W.heap.size ≤ t.lo) (k2 : t.hi ≤ W'.heap.size) (ha : s.hi ≤ t.lo ∨ t.hi ≤ s.lo) : SL w0 W' (s :: t :: S) := by
  have k := h.add hb kp kl k1 k2
  refine ⟨k.bel, fun x hx => ?_, List.pairwise_cons.2 ⟨fun x hx => ?_, k.apart⟩⟩
  · rcases List.mem_cons.1 hx with rfl | hx
    · exact ⟨hp, hl, Nat.le_trans h.bel.size h1, h2⟩
    · exact k.is x hx
  · rcases List.mem_cons.1 hx with rfl | hx
    · exact ha
    · exact .inr (Nat.le_trans (h.is x hx).2.2.2 h1)
theorem SL.new (h : SL w0 W S) (cs : Array Value) (ty : TypeId) : SL w0 (W.alloc (.cells cs ty)) (bxS W.heap.size cs.toList :: S) :=
  h.add ((Below.refl _ _).alloc (Nat.le_refl _) _) (wcells_new W cs ty) (bxS.loc _ _) (Nat.le_refl _) (by simp)
theorem SL.at (h : SL w0 W S) (i : Nat) (hs : S[i]? = some s) : s.p W := (h.is _ (List.mem_of_getElem? hs)).1
theorem SL.bx (h : SL w0 W S) (i : Nat) {b : Nat} {X : List Value} (hs : S[i]? = some (bxS b X)) (j : Nat) (v : Value) (hv : X[j]? = some v) : W.cell? ⟨b, j, none⟩ = some v ∧ W.frozen? ⟨b, j, none⟩ = false := (show WCells W b X from h.at i hs).2 j v hv
/-- What lies in one stretch is turned. -/
theorem SL.turn (h : SL w0 W S) (i : Nat) (hs : S[i]? = some s) (tu : Turned W W' s.lo s.hi) {q : World → Prop} (hq : q W') (hl : Str.Loc ⟨q, s.lo, s.hi⟩) : SL w0 W' (S.set i ⟨q, s.lo, s.hi⟩) := by
  have hm := h.is s (List.mem_of_getElem? hs)
  obtain ⟨hi, hie⟩ := List.getElem?_eq_some_iff.1 hs
  have hap : ∀ j (hj : j < S.length), j ≠ i → S[j].hi ≤ s.lo ∨ s.hi ≤ S[j].lo := fun j hj hne => by
    have := List.pairwise_iff_getElem.1 h.apart
    rcases Nat.lt_or_gt_of_ne hne with e | e
    · have := this j i hj hi e; rw [hie] at this; exact this
    · have := this i j hi hj e; rw [hie] at this; exact this.symm
  refine ⟨⟨h.bel.os ▸ tu.base.os ▸ rfl, ?_, ?_, ?_, ?_⟩, fun x hx => ?_, ?_⟩
  · exact tu.base.tape.trans h.bel.tape
  · exact tu.base.output.trans h.bel.output
  · exact Nat.le_trans h.bel.size tu.base.size
  · intro k hk
    exact (tu.block k (Nat.lt_of_lt_of_le hk h.bel.size) (by omega)).trans (h.bel.block k hk)
  · obtain ⟨j, hj, rfl⟩ := List.getElem_of_mem hx
    rw [List.length_set] at hj
    by_cases e : j = i
    · subst e
      rw [List.getElem_set_self]
      exact ⟨hq, hl, hm.2.2.1, Nat.le_trans hm.2.2.2 tu.base.size⟩
    · rw [List.getElem_set_ne (Ne.symm e)]
      have k := h.is _ (List.getElem_mem hj)
      exact ⟨k.2.1 W W' _ _ k.1 tu (hap j hj e), k.2.1, k.2.2.1, Nat.le_trans k.2.2.2 tu.base.size⟩
  · rw [List.pairwise_iff_getElem] at *
    intro a b ha hb hab
    rw [List.length_set] at ha hb
    have := List.pairwise_iff_getElem.1 h.apart a b ha hb hab
    rw [List.getElem_set, List.getElem_set]
    split <;> split
    · omega
    · rename_i e1 e2; subst e1; rw [hie] at this; exact this
    · rename_i e1 e2; subst e2; rw [hie] at this; exact this
    · exact this
theorem SL.put (h : SL w0 W S) (i : Nat) {b : Nat} {X : List Value} (hs : S[i]? = some (bxS b X)) (j : Nat) (v : Value) (hj : j < X.length) : SL w0 (W.setCell ⟨b, j, none⟩ v) (S.set i (bxS b (X.set j v))) :=
  h.turn i hs (Turned.of_grown (gb_set' W b j v) (Nat.le_refl _) (Nat.lt_succ_self _)) ((show WCells W b X from h.at i hs).set j v hj) (bxS.loc _ _)
theorem SL.swap (h : SL w0 W (s :: t :: S)) : SL w0 W (t :: s :: S) := by
  refine ⟨h.bel, fun x hx => h.is x (by simp only [List.mem_cons] at hx ⊢; rcases hx with h | h | h <;> simp [h]), ?_⟩
  have h1 := List.pairwise_cons.1 h.apart
  have h2 := List.pairwise_cons.1 h1.2
  exact List.pairwise_cons.2 ⟨fun x hx => by
    rcases List.mem_cons.1 hx with rfl | hx
    · exact (h1.1 t (List.mem_cons_self ..)).symm
    · exact h2.1 x hx, List.pairwise_cons.2 ⟨fun x hx => h1.1 x (List.mem_cons_of_mem _ hx), h2.2⟩⟩
/-- A row of one's own that is made longer, outside all stretches. -/
theorem SL.grown (h : SL w0 W S) {row : Option Nat} (hg : W.grownBy W' row) (hr : ∀ q, row = some q → w0.heap.size ≤ q ∧ ∀ s ∈ S, s.hi ≤ q ∨ q < s.lo) : SL w0 W' S := by
  cases row with
  | none => exact h.below ⟨hg.os, hg.tape, hg.output, hg.size, fun k hk => hg.block k hk (by simp)⟩
  | some q =>
    have t := Turned.of_grown hg (Nat.le_refl q) (Nat.lt_succ_self q)
    refine ⟨h.bel.grown hg h.bel.size fun k e => by cases e; exact (hr q rfl).1, fun s hs => ⟨(h.is s hs).2.1 W W' _ _ (h.is s hs).1 t (by rcases (hr q rfl).2 s hs with e | e <;> omega), (h.is s hs).2.1, (h.is s hs).2.2.1, Nat.le_trans (h.is s hs).2.2.2 hg.size⟩, h.apart⟩
end
end Go.Proofs.Ytendbipfmgnjkaa
