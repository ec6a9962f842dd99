/- A range over a function that is bound to its receiver, and whose body always goes on: the guide's laws take a function value with nothing bound alone, so this is a law of our own, over the same steps of the machine, at the wide fence. -/
import Derived.RangeFuncNested
import Derived.RangeFuncLeaves
import Derived.RangeFuncBox
import Derived.Shelf.Abstract
import Derived.WalkKit
import Derived.OwnWalkIn
import Derived.TacticsInMore
import Derived.LoopNIn
import Derived.LoopIn
import Derived.Maps.AppendAt
namespace Go.Proofs.YthhpdkeajogkoaaDoor
open Go.RowKit

/-- What a body owes that always goes on: it leaves by its end; what is no cells lies as it lay; what lay below B too; what is held is held of one more. -/
def GoesOn {α : Type} (B : Nat) (I : List α → World → Prop) (xs : List α) (W : World) : Exit → Act → World → Prop := fun e _ W' => e = .normal ∧ KeepsOthers W W' ∧ Below B W W' ∧ I xs W'
/-- What a round of such a body owes to the function that is handed yield. -/
def RoundGoes (P : Program) {α : Type} (n l B : Nat) (encs : α → Array Value) (J : List α → World → Prop) (N : Nat) : Prop :=
  ∀ pre x W, J pre W → pre.length < N → YieldAt Fence.wide n P l (encs x) W fun e W' => e = .returned (.bool true) ∧ J (pre ++ [x]) W' ∧ Below B W W'

theorem keeps_other {W : World} {k l : Nat} {o o' : Obj} (h : W.heap[k]? = some o) (hne : l ≠ k) : (W.putObj l o').heap[k]? = some o := (World.putObj_heap_other (Ne.symm hne)).trans h
theorem below_put {B : Nat} {W : World} {l : Nat} (o' : Obj) (hl : l < W.heap.size) (hB : B ≤ l) : Below B W (W.putObj l o') :=
  (Below.refl B W).grown (grownBy_putObj' W l o') (by omega) (fun k e => by cases e; exact hB)

theorem range_bound {P : Program} {α : Type} {n : Nat} {g : Operand} {ps : Array Tmp} {assign body : Code} {Q : Exit → Act → World → Prop} {a : Act} {w : World} {gf : Nat} {r : Value} {encs : α → Array Value} {B : Nat} (xs : List α)
    (hg : a.eval g = .func (.func gf) #[r] #[]) (eg : ∀ args w, (callFunc gf args).run P w = .ok (.enter gf args) w) (hps : ∀ x, (encs x).size = ps.size) (hB : B ≤ w.heap.size)
    (I : List α → World → Prop) (hI : OwnFrom w.heap.size I) (h0 : I [] w) (a₁ : α → Act)
    (hassign : ∀ (l : Nat) (x : α) (W : World) (K : Act → World → Prop), K (a₁ x) W → assign.wpIn (Fence.wide.inRound l) (n - 1 - 1) P (Exit.then K (fun _ _ _ => False)) { tmps := (ps.zip (encs x)).foldl (fun t (p, v) => t.setIfInBounds p v) a.tmps, defers := [] } W)
    (hbody : ∀ (l : Nat) (pre : List α) (x : α) (W : World), I pre W → pre.length < xs.length → body.wpIn (Fence.wide.inRound l) (n - 1 - 1) P (GoesOn B I (pre ++ [x]) W) (a₁ x) W)
    (hseq : ∀ (l : Nat) (J : List α → World → Prop) (W : World), Below w.heap.size w W → (∀ s X Y, J s X → X.grownBy Y none → J s Y) → RoundGoes P (n - 1 - 1) l B encs J xs.length → J [] W → CallsIn Fence.wide (n - 1) P gf #[r, .func (.yield l) #[] #[]] W fun e W' => (∃ v, e = .returned v) ∧ J xs W')
    (hdone : ∀ (D : Nat) (W : World), w.heap.size ≤ D → I xs W → W.heap[D]? = some (.deferred (some [])) → Q .normal { a with defers := { target := .collected D, args := #[] } :: a.defers } W) :
    (Code.rangeFunc g ps assign body).wpIn Fence.wide n P Q a w := by
  apply wpIn_rangeFunc
  intro fn hfn
  let lp : LoopState → Loop := fun st => { state := st, pending := none, fn, tmps := a.tmps, params := ps, assign, body, defers := w.heap.size }
  let D := w.heap.size
  let l := w.heap.size + 1
  obtain ⟨V, hV⟩ : ∃ V, V = (w.alloc (.deferred (some []))).alloc (.loop (lp .ready)) := ⟨_, rfl⟩
  have gV : w.grownBy V none := by
    have := ((Below.refl w.heap.size w).alloc (Nat.le_refl _) (.deferred (some []))).alloc (by simp) (.loop (lp .ready))
    rw [hV]; exact ⟨this.os, this.tape, this.output, this.size, fun k hk _ => this.block k hk⟩
  have vl : V.heap[l]? = some (.loop (lp .ready)) := by
    have := World.alloc_heap_new (w.alloc (.deferred (some []))) (.loop (lp .ready))
    rw [World.size_alloc] at this
    rw [hV]; exact this
  have vD : V.heap[D]? = some (.deferred (some [])) := by
    rw [hV]; exact (Below.heap_alloc _ _ _ (by simp [D])).trans (World.alloc_heap_new w _)
  refine ⟨l, _, V, { target := .fn (.func gf) #[], args := #[r, .func (.yield l) #[] #[]] }, V, gf, #[r, .func (.yield l) #[] #[]], V, (by rw [hV]; exact run_enterLoop_outer _ _ _ _ _), ?_, fun _ _ => trivial, (by simp [invoke, go_sem, eg]), (fun h => by cases h), ?_⟩
  · simp only [resolve, hg]
    simp [go_sem]
  let J : List α → World → Prop := fun pre W => I pre W ∧ W.heap[l]? = some (.loop (lp .ready)) ∧ W.heap[D]? = some (.deferred (some []))
  have hJ : ∀ s X Y, J s X → X.grownBy Y none → J s Y := fun s X Y ⟨h1, h2, h3⟩ hg' =>
    ⟨hI s X Y none h1 hg' (fun _ e => by cases e), (hg'.block l (Array.getElem?_eq_some_iff.1 h2).1 (by simp)).trans h2, (hg'.block D (Array.getElem?_eq_some_iff.1 h3).1 (by simp)).trans h3⟩
  have hround : RoundGoes P (n - 1 - 1) l B encs J xs.length := by
    rintro pre x W ⟨hi, hl, hd⟩ hlen
    have hlt := (Array.getElem?_eq_some_iff.1 hl).1
    refine ⟨fn, _, assign, body, run_yield hl (hps x), roundIn_of_wpIn hfn (hassign l x W _ ⟨_, run_beginRound hl rfl, ?_⟩)⟩
    obtain ⟨X, hX⟩ : ∃ X, X = W.putObj l (.loop (lp .busy)) := ⟨_, rfl⟩
    have xl : X.heap[l]? = some (.loop (lp .busy)) := by rw [hX]; exact World.putObj_heap_same hlt
    have xD : X.heap[D]? = some (.deferred (some [])) := by rw [hX]; exact keeps_other hd (by simp [l, D])
    have xI : I pre X := by rw [hX]; exact hI.putObj _ hi (by simp [l]) hl rfl
    have xB : Below B W X := by rw [hX]; exact below_put _ hlt (by simp only [l]; omega)
    show body.wpIn _ _ _ _ _ (W.putObj l (.loop (lp .busy)))
    rw [← hX]
    refine wpIn_mono (hbody l pre x X xI hlen) ?_
    rintro e a3 Y ⟨rfl, hk, hb, hiY⟩
    have yl := hk.same _ _ xl rfl
    have yD := hk.same _ _ xD rfl
    have ylt := (Array.getElem?_eq_some_iff.1 yl).1
    exact ⟨_, _, run_endRound none yl, rfl, ⟨hI.putObj _ hiY (by simp [l]) yl rfl, World.putObj_heap_same ylt, keeps_other yD (by simp [l, D])⟩, (xB.trans hb).trans (below_put _ ylt (by simp only [l]; omega))⟩
  refine (hseq l J V ⟨gV.os, gV.tape, gV.output, gV.size, fun k hk => gV.block k hk (by simp)⟩ hJ hround ⟨hI [] w V none h0 gV (fun _ e => by cases e), vl, vD⟩).mono ?_
  rintro e W2 ⟨⟨v, rfl⟩, hi, hl, hd⟩
  exact ⟨none, _, run_endLoop hl (by simp [lp]), hdone D _ (Nat.le_refl _) (hI.putObj _ hi (by simp [l]) hl rfl) (keeps_other hd (by simp [l, D]))⟩
end Go.Proofs.YthhpdkeajogkoaaDoor
