/- A range over a closure that is handed a yield, whose body goes on or returns: a law of our own, over the same steps of the machine as the guide's, at the wide fence. -/
import Derived.RangeFuncNested
import Derived.RangeFuncLeaves
import Derived.RangeFuncBox
import Derived.Shelf.Abstract
import Derived.WalkKit
import Derived.OwnWalkIn
import Derived.TacticsInMore
import Derived.LoopNIn
import Derived.LoopIn
import Derived.Maps.AppendAt
namespace Go.Proofs.Ytendbipfmgnjkaa
set_option maxRecDepth 100000
open Go.RowKit

/-- What a body owes: what is no cells lies as it lay; what lay below B too; it goes on, or it returns. -/
def GoesRet {α : Type} (B : Nat) (I Ix : List α → World → Prop) (xs : List α) (W : World) : Exit → Act → World → Prop := fun e _ W' => KeepsOthers W W' ∧ Below B W W' ∧ ((e = .normal ∧ I xs W') ∨ (e = .ret ∧ Ix xs W'))
/-- What a round of such a body owes to the function that is handed yield. -/
def RoundRet (P : Program) {α : Type} (n l B : Nat) (encs : α → Array Value) (J Jx : List α → World → Prop) (xs : List α) : Prop :=
  ∀ pre x post W, xs = pre ++ x :: post → J pre W → YieldAt Fence.wide n P l (encs x) W fun e W' => Below B W W' ∧ ((e = .returned (.bool true) ∧ J (pre ++ [x]) W') ∨ (e = .returned (.bool false) ∧ Jx (pre ++ [x]) W'))

theorem keeps_otherX {W : World} {k l : Nat} {o o' : Obj} (h : W.heap[k]? = some o) (hne : l ≠ k) : (W.putObj l o').heap[k]? = some o := (World.putObj_heap_other (Ne.symm hne)).trans h
theorem below_putX {B : Nat} {W : World} {l : Nat} (o' : Obj) (hl : l < W.heap.size) (hB : B ≤ l) : Below B W (W.putObj l o') :=
  (Below.refl B W).grown (grownBy_putObj' W l o') (by omega) (fun k e => by cases e; exact hB)

theorem range_ret {P : Program} {α : Type} {n : Nat} {g : Operand} {ps : Array Tmp} {assign body : Code} {Q : Exit → Act → World → Prop} {a : Act} {w : World} {gf : Nat} {r : Value} {encs : α → Array Value} {B : Nat} (xs : List α)
    (hg : a.eval g = .func (.func gf) #[] #[r]) (eg : ∀ args w, (callFunc gf args).run P w = .ok (.enter gf args) w) (hps : ∀ x, (encs x).size = ps.size) (hB : B ≤ w.heap.size)
    (I Ix : List α → World → Prop) (hI : OwnFrom w.heap.size I) (hX : OwnFrom w.heap.size Ix) (h0 : I [] w) (A : List α → α → Act → World → Prop) (hA : ∀ pre x a', OwnFrom w.heap.size (fun (_ : Unit) W => A pre x a' W))
    (hassign : ∀ (l : Nat) (pre : List α) (x : α) (post : List α) (W : World) (K : Act → World → Prop), xs = pre ++ x :: post → I pre W → (∀ a' W', KeepsOthers W W' → Below B W W' → A pre x a' W' → K a' W') → assign.wpIn (Fence.wide.inRound l) (n - 1 - 1) P (Exit.then K (fun _ _ _ => False)) { tmps := (ps.zip (encs x)).foldl (fun t (p, v) => t.setIfInBounds p v) a.tmps, defers := [] } W)
    (hbody : ∀ (l : Nat) (pre : List α) (x : α) (post : List α) (a' : Act) (W : World), xs = pre ++ x :: post → A pre x a' W → body.wpIn (Fence.wide.inRound l) (n - 1 - 1) P (GoesRet B I Ix (pre ++ [x]) W) a' W)
    (hseq : ∀ (l : Nat) (J Jx : List α → World → Prop) (W : World), Below w.heap.size w W → (∀ s X, J s X → I s X) → (∀ s X Y, J s X → X.grownBy Y none → J s Y) → RoundRet P (n - 1 - 1) l B encs J Jx xs → J [] W → CallsIn Fence.wide (n - 1) P gf #[.func (.yield l) #[] #[], r] W fun e W' => (∃ v, e = .returned v) ∧ (J xs W' ∨ ∃ pre, Jx pre W'))
    (hdone : ∀ (D : Nat) (W : World), w.heap.size ≤ D → I xs W → W.heap[D]? = some (.deferred (some [])) → Q .normal { a with defers := { target := .collected D, args := #[] } :: a.defers } W)
    (hstop : ∀ (D : Nat) (pre : List α) (W : World), w.heap.size ≤ D → Ix pre W → W.heap[D]? = some (.deferred (some [])) → Code.ret.wpIn Fence.wide n P Q { a with defers := { target := .collected D, args := #[] } :: a.defers } W) :
    (Code.rangeFunc g ps assign body).wpIn Fence.wide n P Q a w := by
  apply wpIn_rangeFunc
  intro fn hfn
  let lp : LoopState → Option Code → Loop := fun st pe => { state := st, pending := pe, fn, tmps := a.tmps, params := ps, assign, body, defers := w.heap.size }
  let D := w.heap.size
  let l := w.heap.size + 1
  obtain ⟨V, hV⟩ : ∃ V, V = (w.alloc (.deferred (some []))).alloc (.loop (lp .ready none)) := ⟨_, rfl⟩
  have gV : w.grownBy V none := by
    have := ((Below.refl w.heap.size w).alloc (Nat.le_refl _) (.deferred (some []))).alloc (by simp) (.loop (lp .ready none))
    rw [hV]; exact ⟨this.os, this.tape, this.output, this.size, fun k hk _ => this.block k hk⟩
  have vl : V.heap[l]? = some (.loop (lp .ready none)) := by
    have := World.alloc_heap_new (w.alloc (.deferred (some []))) (.loop (lp .ready none))
    rw [World.size_alloc] at this
    rw [hV]; exact this
  have vD : V.heap[D]? = some (.deferred (some [])) := by
    rw [hV]; exact (Below.heap_alloc _ _ _ (by simp [D])).trans (World.alloc_heap_new w _)
  refine ⟨l, _, V, { target := .fn (.func gf) #[r], args := #[.func (.yield l) #[] #[]] }, V, gf, #[.func (.yield l) #[] #[], r], V, (by rw [hV]; exact run_enterLoop_outer _ _ _ _ _), ?_, fun _ _ => trivial, (by simp [invoke, go_sem, eg]), (fun h => by cases h), ?_⟩
  · simp only [resolve, hg]
    simp [go_sem]
  let J : List α → World → Prop := fun pre W => I pre W ∧ W.heap[l]? = some (.loop (lp .ready none)) ∧ W.heap[D]? = some (.deferred (some []))
  let Jx : List α → World → Prop := fun pre W => Ix pre W ∧ W.heap[l]? = some (.loop (lp .done (some .ret))) ∧ W.heap[D]? = some (.deferred (some []))
  have hJ : ∀ s X Y, J s X → X.grownBy Y none → J s Y := fun s X Y ⟨h1, h2, h3⟩ hg' =>
    ⟨hI s X Y none h1 hg' (fun _ e => by cases e), (hg'.block l (Array.getElem?_eq_some_iff.1 h2).1 (by simp)).trans h2, (hg'.block D (Array.getElem?_eq_some_iff.1 h3).1 (by simp)).trans h3⟩
  have hround : RoundRet P (n - 1 - 1) l B encs J Jx xs := by
    rintro pre x post W hxs ⟨hi, hl, hd⟩
    refine ⟨fn, _, assign, body, run_yield hl (hps x), roundIn_of_wpIn hfn (hassign l pre x post W _ hxs hi fun a' W1 hk1 hb1 hA1 => ⟨_, run_beginRound (hk1.same _ _ hl rfl) rfl, ?_⟩)⟩
    replace hl := hk1.same _ _ hl rfl
    replace hd := hk1.same _ _ hd rfl
    have hlt := (Array.getElem?_eq_some_iff.1 hl).1
    obtain ⟨X, hX'⟩ : ∃ X, X = W1.putObj l (.loop (lp .busy none)) := ⟨_, rfl⟩
    have xl : X.heap[l]? = some (.loop (lp .busy none)) := by rw [hX']; exact World.putObj_heap_same hlt
    have xD : X.heap[D]? = some (.deferred (some [])) := by rw [hX']; exact keeps_otherX hd (by simp [l, D])
    have xA : A pre x a' X := by rw [hX']; exact (hA pre x a').putObj (s := ()) _ hA1 (by simp [l]) hl rfl
    have xB : Below B W X := by rw [hX']; exact hb1.trans (below_putX _ hlt (by simp only [l]; omega))
    show body.wpIn _ _ _ _ _ (W1.putObj l (.loop (lp .busy none)))
    rw [← hX']
    refine wpIn_mono (hbody l pre x post a' X hxs xA) ?_
    rintro e a3 Y ⟨hk, hb, hor⟩
    have yl := hk.same _ _ xl rfl
    have yD := hk.same _ _ xD rfl
    have ylt := (Array.getElem?_eq_some_iff.1 yl).1
    have hB3 : ∀ o', Below B W (Y.putObj l o') := fun o' => (xB.trans hb).trans (below_putX _ ylt (by simp only [l]; omega))
    rcases hor with ⟨rfl, hiY⟩ | ⟨rfl, hiY⟩
    · exact ⟨_, _, run_endRound none yl, hB3 _, .inl ⟨rfl, hI.putObj _ hiY (by simp [l]) yl rfl, World.putObj_heap_same ylt, keeps_otherX yD (by simp [l, D])⟩⟩
    · exact ⟨_, _, run_endRound (some .ret) yl, hB3 _, .inr ⟨rfl, hX.putObj _ hiY (by simp [l]) yl rfl, World.putObj_heap_same ylt, keeps_otherX yD (by simp [l, D])⟩⟩
  refine (hseq l J Jx V ⟨gV.os, gV.tape, gV.output, gV.size, fun k hk => gV.block k hk (by simp)⟩ (fun _ _ h => h.1) hJ hround ⟨hI [] w V none h0 gV (fun _ e => by cases e), vl, vD⟩).mono ?_
  rintro e W2 ⟨⟨v, rfl⟩, ⟨hi, hl, hd⟩ | ⟨pre, hi, hl, hd⟩⟩
  · exact ⟨none, _, run_endLoop hl (by simp [lp]), hdone D _ (Nat.le_refl _) (hI.putObj _ hi (by simp [l]) hl rfl) (keeps_otherX hd (by simp [l, D]))⟩
  · exact ⟨some .ret, _, run_endLoop hl (by simp [lp]), hstop D pre _ (Nat.le_refl _) (hX.putObj _ hi (by simp [l]) hl rfl) (keeps_otherX hd (by simp [l, D]))⟩
end Go.Proofs.Ytendbipfmgnjkaa
