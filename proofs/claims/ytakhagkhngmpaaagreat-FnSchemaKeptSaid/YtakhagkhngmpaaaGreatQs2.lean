/- Texts of ours, laid one behind the other: PathC, GrwA, EdA, EdZ, EdB, GrwB, EdD, DrEdA, DrEdB, SpnB, CpA, PathS, SpnC, HexM, SpnD, NestB, NestC, SpnE, TreL, GrwC, GrwD, OpenM, EdC, TreB, TreF, TreG, TreH, TreI, GrwF, LkP, PaI, PaJ, StrW. -/
import Derived.Test.YtakhagkhngmpaaaGreatQs1
import Derived.BigQuiet
import Derived.Deep.CutRange
import Derived.OrdersHeld
import Derived.Deep.RegionHeld3
import Derived.Deep.AppendLies
import Derived.Deep.Upon
import Derived.PlainAid
import Derived.Deep.Slices
import Derived.Deep.Strs
import Derived.ChangeArms
import Derived.ChangeSame
import Derived.WideShapes
import Derived.OpenShut
import Derived.WalkSmall
import Derived.Laws.RangeAny
/- PathC: . -/
namespace Go.Proofs.YtakhagkhngmpaaaGreat
set_option maxRecDepth 100000
open Go.RowKit
open Go.PlainAid (bt)
attribute [local go_sem ↓] Go.wp_at_zero Go.wp_at_succ
def ParPost (p : ByteArray) (w : World) (e : Ending) (w' : World) : Prop := e = .returned (.tuple #[.string (parentB p).1, .string (parentB p).2.1, .bool (parentB p).2.2]) ∧ Below w.heap.size w w'
theorem parent_no {p : ByteArray} {L : List ByteArray} {ok : Bool} (h : splitB p = (L, ok)) (hn : ok = false ∨ L = []) : parentB p = (⟨#[]⟩, ⟨#[]⟩, false) := by
 unfold parentB
 rw [h]
 rw [if_neg (fun q => by
  rcases hn with e | e
  ·rw [e] at q; cases q.1
  ·exact q.2 e)]
theorem parent_yes {p : ByteArray} {I : List ByteArray} {x : ByteArray} (h : splitB p = (I ++ [x], true)) : parentB p = (joinB I, x, true) := by
 unfold parentB
 rw [h, if_pos ⟨rfl, by simp⟩]
 simp
theorem names_fit {L : List ByteArray} (h : ∀ s ∈ L, nameB s = true) (h4 : L.length ≤ 4) : TFit L := by
 have hs : ∀ s ∈ L, s.size ≤ 8 := fun s hs => ((nameB_iff s).1 (h s hs)).2.2
 have : tsum L ≤ L.length * 8 := by
  clear h h4
  induction L with
  | nil => simp [tsum]
  | cons x L ih =>
   simp only [tsum, List.length_cons, Nat.add_mul, Nat.one_mul]
   have h1 := hs x (by simp)
   have h2 := ih (fun s h => hs s (by simp [h]))
   omega
 unfold TFit
 omega
theorem own_some9 {w : World} {B n : Nat} {t : TypeId} {v : Value} {L : List Value} (h : w.ownsRow B t 1 v n L) (hp : 0 < n) : ∃ g cap, v = .slice (some ⟨g, 0, none⟩) n cap ∧ n ≤ cap := by
 rcases h.2 with ⟨_, h0⟩ | ⟨g, cap, _, e, _, _, hc, _⟩
 ·omega
 ·exact ⟨g, cap, e, hc⟩
theorem own_part9 {w : World} {g cap B n k : Nat} {L : List ByteArray} (hown : w.ownsRow B 9 1 (.slice (some ⟨g, 0, none⟩) n cap) n (tv L)) (hk : k ≤ L.length) : SSee w (.slice (some ⟨g, 0, none⟩) k cap) (L.take k) 0 w.heap.size := by
 have hw := own_wcells hown
 refine ⟨_, cap, by rw [List.length_take, Nat.min_eq_left hk], fun _ => ⟨g, 0, rfl, Nat.zero_le _, hw.1, hw.1, fun i v hv => ?_⟩⟩
 rw [Nat.zero_add]
 have hv' : (tv L)[i]? = some v := by
  unfold tv at hv ⊢
  rw [List.map_take] at hv
  rw [List.getElem?_take] at hv
  split at hv
  ·exact hv
  ·cases hv
 exact (hw.2 i v hv').1
end Go.Proofs.YtakhagkhngmpaaaGreat
/- GrwA: . -/
namespace Go.Proofs.YtakhagkhngmpaaaGreat
set_option maxRecDepth 100000
open Go.RowKit
structure Grow (w : World) where
 val : World
 bel : Below w.heap.size w val
instance {w : World} : Nonempty (Grow w) := ⟨⟨w, Below.refl _ _⟩⟩
theorem wp_region_grow {P : Program} {id : Nat} {Q : Exit → Act → World → Prop} {a : Act} {w : World} {l : List Oper} (hm : P.follows .mixedOrders = true) (hB : Region.lexB .any l.toArray = true)
  (h : wpQuiet P l.toArray (fun W => ∃ X : Grow w, W = X.val) (fun a' => ∀ w', (∃ X : Grow w, w' = X.val) → Q .normal a' w') l a) : (Code.region id l.toArray true).wp P Q a w :=
 wp_region_quiet (C := fun W => ∃ X : Grow w, W = X.val) hm hB ⟨⟨w.drew, Below.drew (Below.refl _ _)⟩, rfl⟩ (by simpa using h)
theorem Grow.cell {w : World} (X : Grow w) {p : Addr} {v : Value} (h : w.cell? p = some v) (hl : p.block < w.heap.size) : X.val.cell? p = some v := (X.bel.cell hl).trans h
theorem calls_grow {P : Program} {f : FuncId} {args : Array Value} {w : World} {v : Value} (h : ∀ W, Below w.heap.size w W → Calls P f args W fun e w' => e = .returned v ∧ Below W.heap.size W w') (X : Grow w) :
  Calls P f args X.val fun e w'' => e = .returned v ∧ ∃ Y : Grow w, w'' = Y.val :=
 (h X.val X.bel).mono fun _ w'' ⟨he, hb⟩ => ⟨he, ⟨w'', X.bel.trans (hb.mono X.bel.size)⟩, rfl⟩
theorem calls_same {P : Program} {f : FuncId} {args : Array Value} {w : World} {v : Value} (h : ∀ W, Below w.heap.size w W → Calls P f args W fun e w' => e = .returned v ∧ w' = W) (X : Grow w) :
  Calls P f args X.val fun e w'' => e = .returned v ∧ ∃ Y : Grow w, w'' = Y.val :=
 (h X.val X.bel).mono fun _ _ ⟨he, hb⟩ => ⟨he, X, hb⟩
end Go.Proofs.YtakhagkhngmpaaaGreat
/- EdA: . -/
namespace Go.Proofs.YtakhagkhngmpaaaGreat
set_option maxRecDepth 100000
open Go.RowKit BigFrame
attribute [local go_sem ↓] Go.wp_at_zero Go.wp_at_succ
structure EM where
 kind : Int
 path : ByteArray
 dest : ByteArray
 num : Int
 who : Int
instance : Inhabited EM := ⟨⟨0, ⟨#[]⟩, ⟨#[]⟩, 0, 0⟩⟩
abbrev ev (e : EM) : Value := .agg #[.int .i64 e.kind, .string e.path, .string e.dest, .int .i64 e.num, .int .i64 e.who]
def ecells (e : EM) : List Value := [.int .i64 e.kind, .string e.path, .string e.dest, .int .i64 e.num, .int .i64 e.who]
theorem ecells_len (e : EM) : (ecells e).length = 5 := rfl
def EFit (e : EM) : Prop := e.path.size ≤ 1048576 ∧ e.dest.size ≤ 1048576
def named (p : ByteArray) : Bool := (parentB p).2.2
def pathBad (e : EM) : Bool := (!named e.path && !(((e.kind == 5) || (e.kind == 6)) && (e.path.toList == [47]))) || ((e.kind == 3) != named e.dest) || ((e.kind != 3) && (e.dest.toList != []))
def numsOk (e : EM) : Bool := if e.kind = 5 then inI e.num 1 3 && (e.who == 0) else if e.kind = 6 then inI e.num 0 1000 && (e.who == 0) else if e.kind = 7 then inI e.num 1 200 && (e.who == 0) else if e.kind = 2 ∨ e.kind = 9 then (e.num == 0) && inI e.who 1 9 else (e.num == 0) && (e.who == 0)
def editOk (e : EM) : Bool := inI e.kind 1 10 && (if e.kind = 10 then (e.path.toList == [47]) && (e.dest.toList == []) && (e.num == 0) && (e.who == 0) else !pathBad e && numsOk e)
end Go.Proofs.YtakhagkhngmpaaaGreat
/- EdZ: . -/
namespace Go.Proofs.YtakhagkhngmpaaaGreat
set_option maxRecDepth 100000
open Go.RowKit
def zeroE : EM := ⟨0, ⟨#[]⟩, ⟨#[]⟩, 0, 0⟩
def put5 (w : World) (A : Nat) (X : EM) : World := ((((w.setCell ⟨A, 0, none⟩ (.int .i64 X.kind)).setCell ⟨A, 1, none⟩ (.string X.path)).setCell ⟨A, 2, none⟩ (.string X.dest)).setCell ⟨A, 3, none⟩ (.int .i64 X.num)).setCell ⟨A, 4, none⟩ (.int .i64 X.who)
end Go.Proofs.YtakhagkhngmpaaaGreat
/- EdB: . -/
namespace Go.Proofs.YtakhagkhngmpaaaGreat
set_option maxRecDepth 100000
open Go.RowKit BigFrame
attribute [local go_sem ↓] Go.wp_at_zero Go.wp_at_succ
end Go.Proofs.YtakhagkhngmpaaaGreat
/- GrwB: . -/
namespace Go.Proofs.YtakhagkhngmpaaaGreat
set_option maxRecDepth 100000
open Go.RowKit
theorem qA {α : Type} (l : List α) (i : Nat) (a : α) : l.toArray.setIfInBounds i a = (l.set i a).toArray := by simp
theorem qB {α : Type} (x : α) (l : List α) (a : α) : (x :: l).set 0 a = a :: l := rfl
theorem qC {α : Type} (x : α) (l : List α) (n : Nat) (a : α) : (x :: l).set (n + 1) a = x :: l.set n a := rfl
def Later (w w' : World) : Prop := Below w.heap.size w w'
theorem Later.refl (w : World) : Later w w := Below.refl _ _
theorem Later.trans {a b c : World} (h : Later a b) (g : Later b c) : Later a c := Below.trans h (Below.mono g (Below.size h))
section
variable {P : Program} {ops : Array Oper} {Q : Exit → Act → World → Prop} {md : Region.Mode}
def wpL (P : Program) (md : Region.Mode) (ops : Array Oper) (Q : Exit → Act → World → Prop) : Nat → Array Bool → Act → World → Prop
 | 0, l, a, w => Region.ready md ops l = [] ∧ ∀ x, Later w x → Q .normal a x
 | n + 1, l, a, w => ∀ x, Later w x → (Region.ready md ops l = [] → Q .normal a x) ∧
   ∀ i ∈ Region.ready md ops l, wpOp P ops Q i (fun a' y => Later x y ∧ wpL P md ops Q n (l.setIfInBounds i true) a' y) a x
theorem wpL_later : ∀ (n : Nat) (l : Array Bool) (a : Act) (w y : World), Later w y → wpL P md ops Q n l a w → wpL P md ops Q n l a y
 | 0, _, _, _, _, hy, h => ⟨h.1, fun x hx => h.2 x (hy.trans hx)⟩
 | _ + 1, _, _, _, _, hy, h => fun x hx => h x (hy.trans hx)
theorem wpAny_of_L : ∀ (n : Nat) (l : Array Bool) (a : Act) (w : World), wpL P md ops Q n l a w → wpAny P md ops Q n l a w
 | 0, _, _, w, h => ⟨h.1, h.2 w (Later.refl w)⟩
 | n + 1, _, _, w, h => ⟨(h w (Later.refl w)).1, fun i hi => wpOp_mono (fun a' y hh => wpAny_of_L n _ a' y hh.2) ((h w (Later.refl w)).2 i hi)⟩
def YL (P : Program) (ops : Array Oper) (o : Oper) (v : Value) (a : Act) (w : World) : Prop :=
 (Region.wanted o (yielded ops a.tmps) = true ∧ ∀ x, Later w x → o.quietAt P a (Later x) x v) ∨ (Region.wanted o (yielded ops a.tmps) = false ∧ v = undef)
theorem YL.later {o : Oper} {v : Value} {a : Act} {w y : World} (h : YL P ops o v a w) (hy : Later w y) : YL P ops o v a y :=
 h.imp (fun q => ⟨q.1, fun x hx => q.2 x (hy.trans hx)⟩) id
theorem YL.same {o : Oper} {v : Value} {a b : Act} {w : World} (h : YL P ops o v a w) (he : execOp b.eval o = execOp a.eval o) (hw : Region.wanted o (yielded ops b.tmps) = Region.wanted o (yielded ops a.tmps)) : YL P ops o v b w := by
 unfold YL Oper.quietAt at *
 rw [he, hw]
 exact h
theorem YL.op {i : Nat} {o : Oper} {v : Value} {a : Act} {w x : World} {K : Act → World → Prop} (hi : ops[i]? = some o) (h : YL P ops o v a w) (hx : Later w x) (hk : ∀ y, Later x y → K (a.put o.dst v) y) : wpOp P ops Q i K a x := by
 unfold wpOp
 rw [hi]
 dsimp only
 rcases h with ⟨hw, hq⟩ | ⟨hw, hv⟩
 ·rw [if_pos hw]
  refine Or.inl ?_
  have q := hq x hx
  unfold Oper.quietAt at q
  unfold Oper.wp
  revert q
  cases (execOp a.eval o).run P x with
  | halt _ _ => exact False.elim
  | ok r y =>
   cases r with
   | value u => rintro ⟨rfl, rfl⟩; exact hk _ (Later.refl _)
   | skip => rintro ⟨rfl, rfl⟩; exact hk _ (Later.refl _)
   | enter f args => rintro ⟨rfl, hc⟩; exact hc.mono (by rintro _ z ⟨rfl, hz⟩; exact hk _ hz)
   | _ => exact False.elim
 ·rw [if_neg (by rw [hw]; exact Bool.false_ne_true), ← hv]
  exact hk _ (Later.refl _)
def Fr (d : Option Tmp) (a b : Act) : Prop := ∃ u, b = a.put d u ∨ ∃ f, b = { a with defers := f :: a.defers }.put d u
theorem op_frame {j : Nat} {oj : Oper} {K : Act → World → Prop} {a : Act} {x : World} (hj : ops[j]? = some oj) (h : wpOp P ops Q j K a x) : wpOp P ops Q j (fun b y => Fr oj.dst a b ∧ K b y) a x := by
 unfold wpOp at h ⊢
 rw [hj] at h ⊢
 dsimp only at h ⊢
 split
 ·rename_i hw
  rw [if_pos hw] at h
  refine h.imp_left fun q => ?_
  unfold Oper.wp at q ⊢
  revert q
  cases (execOp a.eval oj).run P x with
  | halt r y => cases r <;> exact id
  | ok r y =>
   cases r with
   | value u => exact fun q => ⟨⟨u, .inl rfl⟩, q⟩
   | skip => exact fun q => ⟨⟨undef, .inl rfl⟩, q⟩
   | defer f => exact fun q => ⟨⟨undef, .inr ⟨f, rfl⟩⟩, q⟩
   | enter f args => exact fun q => Calls.mono q fun e z hz => by cases e <;> first | exact ⟨⟨_, .inl rfl⟩, hz⟩ | exact hz
   | row r args => exact fun q => Rows.mono q fun u z hz => ⟨⟨u, .inl rfl⟩, hz⟩
   | _ => exact id
 ·rename_i hw
  rw [if_neg hw] at h
  exact ⟨⟨undef, .inl rfl⟩, h⟩
theorem op_beside {j : Nat} {oi oj : Oper} {v : Value} {w : World} (hj : ops[j]? = some oj) (hap : oi.apart ops oj = true) (hsi : ∀ cs b, oi.op ≠ .select cs b) (hsj : ∀ cs b, oj.op ≠ .select cs b)
  (hQ : ∀ c a w, Q (.panic c) (a.put oi.dst v) w → Q (.panic c) a w) {K : Act → World → Prop} {a : Act} {x : World} (hy : YL P ops oi v a w) (h : wpOp P ops Q j K (a.put oi.dst v) x) :
  wpOp P ops Q j (fun a' y => YL P ops oi v a' w ∧ K (a'.put oi.dst v) y) a x := by
 have h3 := (Oper.apart_spec hap).2.2
 refine wpOp_mono ?_ (op_frame hj (wpOp_putIf (S := fun _ => False) hj hap hsi hsj hQ (hy.imp (fun q => ⟨q.1, fun _ hf => hf.elim⟩) id) h))
 rintro b y ⟨⟨u, rfl | ⟨f, rfl⟩⟩, -, hk⟩
 ·exact ⟨hy.same (execOp_put oi hsi a oj.dst u h3) (wanted_put oi a oj.dst u h3), hk⟩
 ·have q : YL P ops oi v { a with defers := f :: a.defers } w := hy.same rfl rfl
  exact ⟨q.same (execOp_put oi hsi _ oj.dst u h3) (wanted_put oi _ oj.dst u h3), hk⟩
theorem ready_free {l : Array Bool} {i j : Nat} {oj : Oper} (hi : i ∈ Region.ready md ops l) (hj : j ∈ Region.ready md ops l) (ho : ops[j]? = some oj) : ∀ e ∈ oj.after, Region.binds md e = true → e.on ≠ i := by
 obtain ⟨-, o', ho', hall⟩ := mem_ready.1 hj
 obtain rfl : oj = o' := Option.some.inj (ho.symm.trans ho')
 rintro e he hb rfl
 have q := hall e he hb
 have z := (mem_ready.1 hi).1
 grind
theorem wpL_first {i : Nat} {oi : Oper} {v : Value} (hi : ops[i]? = some oi) (hsel : ∀ (j : Nat) (o : Oper) cs b, ops[j]? = some o → o.op ≠ .select cs b) (hQ : ∀ c a w, Q (.panic c) (a.put oi.dst v) w → Q (.panic c) a w) :
  ∀ (n : Nat) (l : Array Bool) (a : Act) (w : World), (∀ j oj, ops[j]? = some oj → j ≠ i → l.getD j true = false → (∀ e ∈ oj.after, Region.binds md e = true → e.on ≠ i) → oi.apart ops oj = true) →
   i ∈ Region.ready md ops l → YL P ops oi v a w → wpL P md ops Q n (l.setIfInBounds i true) (a.put oi.dst v) w → wpL P md ops Q (n + 1) l a w := by
 intro n
 induction n with
 | zero =>
  intro l a w _ hr hy H x hx
  refine ⟨fun h => (by rw [h] at hr; cases hr), fun j hj => ?_⟩
  by_cases hji : j = i
  ·subst hji
   exact hy.op hi hx fun y hxy => ⟨hxy, wpL_later 0 _ _ _ _ (hx.trans hxy) H⟩
  ·have q := ready_mono hj hji
   rw [H.1] at q
   cases q
 | succ n ih =>
  intro l a w hfree hr hy H x hx
  refine ⟨fun h => (by rw [h] at hr; cases hr), fun j hj => ?_⟩
  by_cases hji : j = i
  ·subst hji
   exact hy.op hi hx fun y hxy => ⟨hxy, wpL_later (n + 1) _ _ _ _ (hx.trans hxy) H⟩
  ·obtain ⟨hun, oj, hoj, -⟩ := mem_ready.1 hj
   have q := op_beside hoj (hfree j oj hoj hji hun (ready_free hr hj hoj)) (fun cs b => hsel i oi cs b hi) (fun cs b => hsel j oj cs b hoj) hQ hy ((H x hx).2 j (ready_mono hj hji))
   refine wpOp_mono (fun b y hb => ⟨hb.2.1, ih (l.setIfInBounds j true) b y (fun k ok hk hki hku hno => hfree k ok hk hki ?_ hno) (ready_mono hr (Ne.symm hji)) (hb.1.later (hx.trans hb.2.1)) ?_⟩) q
   ·by_cases hjk : j = k
    ·subst hjk; exact hun
    ·rw [getD_set_ne true hjk] at hku; exact hku
   ·rw [Array.setIfInBounds_comm _ _ hji]
    exact hb.2.2
theorem at_drop {L r : List Oper} {i : Nat} {o : Oper} (h : L.drop i = o :: r) : L.toArray[i]? = some o := by
 have q : (L.drop i)[0]? = some o := by rw [h]; rfl
 simpa using q
theorem wpL_val {L r : List Oper} {i : Nat} {oi : Oper} {v : Value} {n : Nat} {l : Array Bool} {a : Act} {w : World} (hi : L.drop i = oi :: r) (hs : Region.noSelect L.toArray = true) (hf : Region.free md L.toArray l i = true) (hr : (Region.ready md L.toArray l).contains i = true)
  (hQ : ∀ c a w, Q (.panic c) (a.put oi.dst v) w → Q (.panic c) a w) (hw : Region.wanted oi (yielded L.toArray a.tmps) = true) (hy : ∀ x, Later w x → (execOp a.eval oi).run P x = .ok (.value v) x)
  (h : wpL P md L.toArray Q n (l.setIfInBounds i true) (a.put oi.dst v) w) : wpL P md L.toArray Q (n + 1) l a w :=
 wpL_first (at_drop hi) (Region.noSelect_spec hs) hQ n l a w (Region.free_spec (at_drop hi) hf) (by simpa using hr) (Or.inl ⟨hw, fun x hx => by unfold Oper.quietAt; rw [hy x hx]; exact ⟨rfl, rfl⟩⟩) h
theorem wpL_call {L r : List Oper} {i : Nat} {oi : Oper} {v : Value} {f : FuncId} {args : Array Value} {n : Nat} {l : Array Bool} {a : Act} {w : World} (hi : L.drop i = oi :: r) (hs : Region.noSelect L.toArray = true) (hf : Region.free md L.toArray l i = true) (hr : (Region.ready md L.toArray l).contains i = true)
  (hQ : ∀ c a w, Q (.panic c) (a.put oi.dst v) w → Q (.panic c) a w) (hw : Region.wanted oi (yielded L.toArray a.tmps) = true) (hy : ∀ x, Later w x → (execOp a.eval oi).run P x = .ok (.enter f args) x)
  (hc : ∀ x, Later w x → Calls P f args x fun e y => e = .returned v ∧ Below x.heap.size x y)
  (h : wpL P md L.toArray Q n (l.setIfInBounds i true) (a.put oi.dst v) w) : wpL P md L.toArray Q (n + 1) l a w :=
 wpL_first (at_drop hi) (Region.noSelect_spec hs) hQ n l a w (Region.free_spec (at_drop hi) hf) (by simpa using hr) (Or.inl ⟨hw, fun x hx => by unfold Oper.quietAt; rw [hy x hx]; exact ⟨rfl, hc x hx⟩⟩) h
theorem wpL_done {l : Array Bool} {a : Act} {w : World} (hr : Region.ready md ops l = []) (h : ∀ x, Later w x → Q .normal a x) : ∀ n, wpL P md ops Q n l a w
 | 0 => ⟨hr, h⟩
 | _ + 1 => fun x hx => ⟨fun _ => h x hx, by rw [hr]; simp⟩
theorem wp_region_later {id : Nat} {a : Act} {w : World} (hm : P.follows .mixedOrders = true) (h : wpL P .any ops Q ops.size (Array.replicate ops.size false) a w.drew) : (Code.region id ops true).wp P Q a w :=
 wp_region_any hm (wpAny_of_L _ _ _ _ h)
end
section
variable {P : Program} {Q : Exit → Act → World → Prop} {md : Region.Mode}
end
section
variable {P : Program} {Q : Exit → Act → World → Prop} {md : Region.Mode}
end
end Go.Proofs.YtakhagkhngmpaaaGreat
/- EdD: . -/
namespace Go.Proofs.YtakhagkhngmpaaaGreat
set_option maxRecDepth 100000
open Go.RowKit
attribute [local go_sem ↓] Go.wp_at_zero Go.wp_at_succ
def vb (n : Nat) : ByteArray := ⟨(W.vt n).toArray⟩
theorem cell_ltE {w : World} {p : Addr} {v : Value} (h : w.cell? p = some v) : p.block < w.heap.size := by
 by_cases c : p.block < w.heap.size
 ·exact c
 ·exfalso
  unfold World.cell? at h
  rw [Array.getElem?_eq_none (by omega)] at h
  simp at h
def EC (w0 : World) (b : Nat) (e : EM) (w : World) : Prop := w.cell? ⟨b, 0, none⟩ = some (.int .i64 e.kind) ∧ w.cell? ⟨b, 1, none⟩ = some (.string e.path) ∧ w.cell? ⟨b, 2, none⟩ = some (.string e.dest) ∧ w.cell? ⟨b, 3, none⟩ = some (.int .i64 e.num) ∧ w.cell? ⟨b, 4, none⟩ = some (.int .i64 e.who) ∧ Shut (Below w0.heap.size w0 w)
theorem EC.below {w0 : World} {b : Nat} {e : EM} {w w' : World} (h : EC w0 b e w) (hb : Below w.heap.size w w') : EC w0 b e w' :=
 ⟨(hb.cell (p := ⟨b, 0, none⟩) (cell_ltE h.1)).trans h.1, (hb.cell (p := ⟨b, 1, none⟩) (cell_ltE h.2.1)).trans h.2.1, (hb.cell (p := ⟨b, 2, none⟩) (cell_ltE h.2.2.1)).trans h.2.2.1, (hb.cell (p := ⟨b, 3, none⟩) (cell_ltE h.2.2.2.1)).trans h.2.2.2.1, (hb.cell (p := ⟨b, 4, none⟩) (cell_ltE h.2.2.2.2.1)).trans h.2.2.2.2.1, ⟨h.2.2.2.2.2.out.trans (hb.mono h.2.2.2.2.2.out.size)⟩⟩
theorem EC.alloc {w0 : World} {b : Nat} {e : EM} {w : World} (h : EC w0 b e w) (o : Obj) : EC w0 b e (w.alloc o) := h.below ((Below.refl _ _).alloc (Nat.le_refl _) o)
theorem EC.drew {w0 : World} {b : Nat} {e : EM} {w : World} (h : EC w0 b e w) : EC w0 b e w.drew := h.below (Below.drew (Below.refl _ _))
theorem Cur.other {w : World} {g B len cap : Nat} {a : Option Addr} (h : Cur w g B a len cap) (p : Addr) (v : Value) (hp : p.block ≠ g) (hB : B ≤ p.block) : Cur (w.setCell p v) g B a len cap := by
 obtain ⟨h1, h2, h3, h4, ⟨i, h5, h5'⟩, ⟨k, h6⟩, h7⟩ := h
 have hblk : ∀ q, q ≠ p.block → (w.setCell p v).heap[q]? = w.heap[q]? := fun q hq => Below.heap_setCell _ _ _ _ hq
 have hb : Below 0 w (w.setCell p v) := (Below.refl _ _).setCell (Nat.zero_le _) v
 refine ⟨h1, Nat.lt_of_lt_of_le h2 hb.size, ⟨h3.1, fun hp' => ?_⟩, (World.cell?_of_block (a := ⟨g, 0, none⟩) (hblk g (Ne.symm hp))).trans h4, ⟨i, (World.cell?_of_block (a := ⟨g, 1, none⟩) (hblk g (Ne.symm hp))).trans h5, h5'⟩, ⟨k, (World.cell?_of_block (a := ⟨g, 2, none⟩) (hblk g (Ne.symm hp))).trans h6⟩, fun j hj => (World.frozen?_of_block (a := ⟨g, j, none⟩) (hblk g (Ne.symm hp))).trans (h7 j hj)⟩
 obtain ⟨b, off, e, hbB, hx⟩ := h3.2 hp'
 exact ⟨b, off, e, hbB, fun j hj => (hx j hj).imp fun x hx => ⟨(World.cell?_of_block (a := ⟨b, off + j, none⟩) (hblk b (by omega))).trans hx.1, hx.2⟩⟩
def EPl (e : EM) : Prop := (e.path.size ≤ 16 ∧ noZ e.path = true) ∧ (e.dest.size ≤ 16 ∧ noZ e.dest = true)
theorem EPl.fit {e : EM} (h : EPl e) : EFit e := ⟨Nat.le_trans h.1.1 (by omega), Nat.le_trans h.2.1 (by omega)⟩
structure DE (w0 w : World) (g B : Nat) (a : Option Addr) (len cap A E : Nat) (X : EM) : Prop where
 cur : Cur w g B a len cap
 ans : WCells w A (ecells zeroE)
 box : WCells w E (ecells X)
 gr : w0.grownBy w (some g)
 ne : A ≠ E
 hA : w0.heap.size ≤ A
 hE : w0.heap.size ≤ E
 hg : g < w0.heap.size
 pl : EPl X
theorem DE.turn {w0 w w' : World} {g B len cap A E : Nat} {a : Option Addr} {X : EM} (h : DE w0 w g B a len cap A E X) (hc : Cur w' g B a len cap) (hg : w.grownBy w' (some g)) : DE w0 w' g B a len cap A E X :=
 ⟨hc, h.ans.apart hg (by have := h.hA; have := h.hg; omega), h.box.apart hg (by have := h.hE; have := h.hg; omega), gb_two h.gr hg, h.ne, h.hA, h.hE, h.hg, h.pl⟩
theorem gb_fresh {w0 w : World} {g : Nat} (h : w0.grownBy w (some g)) (p : Addr) (v : Value) (hp : w0.heap.size ≤ p.block) : w0.grownBy (w.setCell p v) (some g) := by
 have hb : Below 0 w (w.setCell p v) := (Below.refl _ _).setCell (Nat.zero_le _) v
 exact ⟨hb.os.trans h.os, hb.tape.trans h.tape, hb.output.trans h.output, Nat.le_trans h.size hb.size, fun k hk hn => (Below.heap_setCell _ _ _ _ (by omega)).trans (h.block k hk hn)⟩
theorem DE.set {w0 w : World} {g B len cap A E : Nat} {a : Option Addr} {X : EM} (h : DE w0 w g B a len cap A E X) (i : Nat) (v : Value) (Y : EM) (hi : i < 5) (hz : (ecells X).set i v = ecells Y) (hp : EPl Y) : DE w0 (w.setCell ⟨E, i, none⟩ v) g B a len cap A E Y :=
 ⟨h.cur.other _ _ (by have := h.hE; have := h.hg; show E ≠ g; omega) (by have := h.hE; have := h.hg; have := h.cur.1; show B ≤ E; omega), h.ans.other _ _ h.ne, by rw [← hz]; exact h.box.set i v (by rw [ecells_len]; exact hi), gb_fresh h.gr _ _ h.hE, h.ne, h.hA, h.hE, h.hg, hp⟩
theorem DE.room {w0 w : World} {g B len cap A E : Nat} {a : Option Addr} {X : EM} (h : DE w0 w g B a len cap A E X) : (w.cell? ⟨A, 0, none⟩ = some (.int .i64 0) ∧ w.frozen? ⟨A, 0, none⟩ = false) ∧ (w.cell? ⟨A, 1, none⟩ = some (.string ⟨#[]⟩) ∧ w.frozen? ⟨A, 1, none⟩ = false) ∧ (w.cell? ⟨A, 2, none⟩ = some (.string ⟨#[]⟩) ∧ w.frozen? ⟨A, 2, none⟩ = false) ∧ (w.cell? ⟨A, 3, none⟩ = some (.int .i64 0) ∧ w.frozen? ⟨A, 3, none⟩ = false) ∧ (w.cell? ⟨A, 4, none⟩ = some (.int .i64 0) ∧ w.frozen? ⟨A, 4, none⟩ = false) :=
 ⟨h.ans.2 0 _ rfl, h.ans.2 1 _ rfl, h.ans.2 2 _ rfl, h.ans.2 3 _ rfl, h.ans.2 4 _ rfl⟩
theorem DE.done {w0 w : World} {g B len cap A E : Nat} {a : Option Addr} {X : EM} (h : DE w0 w g B a len cap A E X) : EPl X ∧ WCells (put5 w A X) A (ecells X) ∧ Cur (put5 w A X) g B a len cap ∧ w0.grownBy (put5 w A X) (some g) := by
 have hAg : A ≠ g := by have := h.hA; have := h.hg; omega
 have hBA : B ≤ A := by have := h.hA; have := h.hg; have := h.cur.1; omega
 refine ⟨h.pl, ?_, ?_, ?_⟩
 ·exact ((((h.ans.set 0 (.int .i64 X.kind) (by simp [ecells])).set 1 (.string X.path) (by simp [ecells])).set 2 (.string X.dest) (by simp [ecells])).set 3 (.int .i64 X.num) (by simp [ecells])).set 4 (.int .i64 X.who) (by simp [ecells])
 ·exact ((((h.cur.other ⟨A, 0, none⟩ _ hAg hBA).other ⟨A, 1, none⟩ _ hAg hBA).other ⟨A, 2, none⟩ _ hAg hBA).other ⟨A, 3, none⟩ _ hAg hBA).other ⟨A, 4, none⟩ _ hAg hBA
 ·exact gb_fresh (gb_fresh (gb_fresh (gb_fresh (gb_fresh h.gr ⟨A, 0, none⟩ _ h.hA) ⟨A, 1, none⟩ _ h.hA) ⟨A, 2, none⟩ _ h.hA) ⟨A, 3, none⟩ _ h.hA) ⟨A, 4, none⟩ _ h.hA

def IAns (w : World) (v : Value) (xs : List Int) (lo hi : Nat) : Prop := ∃ (a : Option Addr) (cap : Nat), v = .slice a xs.length cap ∧ xs.length ≤ cap ∧ (xs = [] ∨ ∃ g, a = some ⟨g, 0, none⟩ ∧ lo ≤ g ∧ g < hi ∧ WCells w g (ics xs))
theorem IAns.empty (w : World) (a : Option Addr) (cap lo hi : Nat) : IAns w (.slice a 0 cap) [] lo hi := ⟨a, cap, rfl, Nat.zero_le _, .inl rfl⟩
theorem IAns.crow {w : World} {v : Value} {xs : List Int} {lo hi : Nat} (h : IAns w v xs lo hi) : ∃ a cap, v = .slice a xs.length cap ∧ CRow w a (ics xs) := by
 obtain ⟨a, cap, e, _, q⟩ := h
 refine ⟨a, cap, e, ?_⟩
 rcases q with rfl | ⟨g, rfl, _, _, q⟩
 ·intro h; simp [ics] at h
 ·exact q.crow
theorem IAns.turned {w w' : World} {v : Value} {xs : List Int} {lo hi lo' hi' : Nat} (h : IAns w v xs lo hi) (t : Turned w w' lo' hi') (hd : hi ≤ lo' ∨ hi' ≤ lo) : IAns w' v xs lo hi := by
 obtain ⟨a, cap, e, hc, q⟩ := h
 refine ⟨a, cap, e, hc, ?_⟩
 rcases q with rfl | ⟨g, rfl, h1, h2, h3⟩
 ·exact .inl rfl
 ·exact .inr ⟨g, rfl, h1, h2, h3.turned t (by omega)⟩
theorem IAns.below {w w' : World} {v : Value} {xs : List Int} {lo hi : Nat} (h : IAns w v xs lo hi) (hb : Below w.heap.size w w') : IAns w' v xs lo hi := by
 obtain ⟨a, cap, e, hc, q⟩ := h
 refine ⟨a, cap, e, hc, ?_⟩
 rcases q with rfl | ⟨g, rfl, h1, h2, h3⟩
 ·exact .inl rfl
 ·exact .inr ⟨g, rfl, h1, h2, h3.below hb h3.1⟩
def IPost (xs : List Int) (w : World) (e : Ending) (w' : World) : Prop := ∃ v, e = .returned v ∧ IAns w' v xs w.heap.size w'.heap.size ∧ Below w.heap.size w w'
theorem own_ians {w w' : World} {v : Value} {xs : List Int} {n : Nat} (hn : xs.length = n) (h : w'.ownsRow w.heap.size 3 1 v n (ics xs)) : IAns w' v xs w.heap.size w'.heap.size := by
 have hlt := h.lt
 have hown := h
 subst hn
 obtain ⟨_, ⟨rfl, h0⟩ | ⟨g, cap, cur, rfl, hB, hcur, hn, _⟩⟩ := h
 ·have : xs = [] := List.eq_nil_of_length_eq_zero h0
  subst this
  exact IAns.empty _ _ _ _ _
 ·exact ⟨_, cap, rfl, hn, .inr ⟨g, rfl, hB, (hlt g rfl).2, own_wcells hown⟩⟩
def spanL (S n : Nat) : List Int := List.replicate ((n - 1) / S) (S : Int) ++ [((n - (n - 1) / S * S : Nat) : Int)]
def spansX (s n : Int) : List Int := if schOk s = true ∧ 1 ≤ n ∧ n ≤ 1000 then spanL (groupN s) n.toNat else []
theorem spansX_no {s n : Int} (h : ¬ (schOk s = true ∧ 1 ≤ n ∧ n ≤ 1000)) : spansX s n = [] := if_neg h
theorem group_pos {s : Int} (h : schOk s = true) : 16 ≤ groupN s := by have := (sch_bounds h).1; unfold groupN; omega
theorem group_zero {s : Int} (h : schOk s = false) : groupN s = 0 := by unfold groupN; rw [(sch_zero h).1]
theorem span_last {S n j : Nat} (hS : 0 < S) (h1 : j * S < n) (h2 : n ≤ j * S + S) : (n - 1) / S = j := by
 have e : n - 1 = (n - 1 - j * S) + j * S := by omega
 rw [e, Nat.add_mul_div_right _ _ hS, Nat.div_eq_of_lt (by omega), Nat.zero_add]
set_option maxHeartbeats 2000000 in
theorem specSpans (s n : Int) (w : World) : Calls Tryz.prog 40 #[.int .i64 s, .int .i64 n] w fun e w' => IPost (spansX s n) w e w' := by
 obtain ⟨i1, hi1, hy0, hy1, hy2⟩ := info_parts infoIntG
 have HG := Shut.mk (fun W => specGroupSize s W)
 obtain ⟨bn, hbn⟩ : ∃ r, (decide ((1 : Int) ≤ n) && decide (n ≤ 1000)) = r := ⟨_, rfl⟩
 have hin := in_bool hbn
 have HIN := Shut.mk (fun W => isIn n 1 1000 W bn hbn)
 have hg32 := groupN_bounds s
 have hal : Below w.heap.size w (w.alloc (.cells #[] 3)) := (Below.refl _ _).alloc (Nat.le_refl _) _
 have HAL := Shut.mk hal
 have HO : Shut ((w.alloc (.cells #[] 3)).ownsRow w.heap.size 3 1 (.slice (some ⟨w.heap.size, 0, none⟩) 0 0) 0 []) := ⟨World.ownsRow_made w #[] 0 (Nat.le_refl _) (by decide) rfl⟩
 clear hal hbn
 cases h : schOk s with
 | false =>
  rw [spansX_no (fun q => by rw [h] at q; cases q.1)]
  rw [group_zero h] at HG
  clear h hin hg32
  go_enter Tryz.func40, Tryz.ntmps40
  go_wp2_with fail
  refine (HG.out _).mono ?_
  rintro e w1 ⟨rfl, rfl⟩
  go_wp2_with fail
  go_ret
  exact ⟨_, rfl, IAns.empty _ _ _ _ _, HAL.out⟩
 | true =>
  have h16 := group_pos h
  cases bn with
  | false =>
   rw [spansX_no (fun q => by have := hin.2 q.2; cases this)]
   clear h hin
   generalize groupN s = S at *
   have hS0 : ((S : Int) == 0) = false := by rw [beq_eq_false_iff_ne]; omega
   go_enter Tryz.func40, Tryz.ntmps40
   go_wp2_with fail
   refine (HG.out _).mono ?_
   rintro e w1 ⟨rfl, rfl⟩
   go_wp2_with fail
   refine (HIN.out _).mono ?_
   rintro e w2 ⟨rfl, rfl⟩
   go_wp2_with fail
   go_ret
   exact ⟨_, rfl, IAns.empty _ _ _ _ _, HAL.out⟩
  | true =>
   obtain ⟨n1, n2⟩ := hin.1 rfl
   obtain ⟨N, rfl⟩ := Int.eq_ofNat_of_zero_le (show 0 ≤ n by omega)
   have e0 : spansX s (N : Int) = spanL (groupN s) N := by unfold spansX; rw [if_pos ⟨h, n1, n2⟩]; rfl
   rw [e0]
   clear h hin e0
   generalize groupN s = S at *
   have hS0 : ((S : Int) == 0) = false := by rw [beq_eq_false_iff_ne]; omega
   go_enter Tryz.func40, Tryz.ntmps40
   go_wp2_with fail
   refine (HG.out _).mono ?_
   rintro e w1 ⟨rfl, hw1⟩
   obtain rfl : w.alloc (.cells #[] 3) = w1 := hw1.symm
   clear hw1
   go_wp2_with fail
   refine (HIN.out _).mono ?_
   rintro e w2 ⟨rfl, hw2⟩
   obtain rfl : w.alloc (.cells #[] 3) = w2 := hw2.symm
   clear hw2
   go_wp2_with fail
   go_loopw [1, 5] (fun nn v wr => ∃ (j r : Nat) (vv : Value), vv = v ∧ nn = .int .i64 (r : Nat) ∧ 1 ≤ r ∧ r ≤ 1000 ∧ Shut (j * S + r = N) ∧ j ≤ 1000 ∧ Shut (wr.ownsRow w.heap.size 3 1 vv j (ics (List.replicate j (S : Int)))) ∧ Shut (Below w.heap.size w wr)) (fun nn _ _ => (intOf nn).toNat)
   case atStart => exact ⟨0, N, _, rfl, rfl, by omega, by omega, ⟨by omega⟩, by omega, HO, HAL⟩
   case round =>
    clear HO HAL
    obtain ⟨j, r, v, rfl, rfl, hr1, hr2, hjr, hj, hown, hb⟩ := hrel
    obtain ⟨wo, rfl⟩ : ∃ wo, wo = wr := ⟨_, rfl⟩
    have hso := hb.out.size
    have hown3 := hown.out
    by_cases hlt : S < r
    ·have hlt' : (S : Int) < (r : Int) := by omega
     have hj2 : j + 1 ≤ 1000 := by
      have h1 := hjr.out
      have h2 : j ≤ j * S := Nat.le_mul_of_pos_right j (by omega)
      omega
     go_wp2_with (at_builtin; refine wpList_append_own _ rfl _ _ 37 rfl w.heap.size 3 i1 (.int .i64 0) 1 8 Tryz.underlying37 hi1 hy0 hy1 hy2 rfl (by decide) _ _ _ rfl (hown3.alloc _) ⟨wo.heap.size, 0, none⟩ 1 1 [.int .i64 (S : Int)] rfl rfl (cell_one_new _ _ _) ?c2 ?c3 ?c4 ?c5 ?_)
     case c2 => first | rfl | (intro u hu; simp at hu; subst hu; rfl)
     case c3 => unfold maxLen; omega
     case c4 => omega
     case c5 => first | omega | (simp; omega)
     intro v' w4 hown' hgrow _
     have Q1 : Shut (w4.ownsRow w.heap.size 3 1 v' (j + 1) (ics (List.replicate (j + 1) (S : Int)))) := ⟨by
      have e : ics (List.replicate (j + 1) (S : Int)) = ics (List.replicate j (S : Int)) ++ [.int .i64 (S : Int)] := by rw [List.replicate_succ']; simp [ics]
      rw [e]; exact hown'⟩
     have Q2 := Shut.mk ((hb.out.alloc hso (.cells #[.int .i64 (S : Int)] 3)).grown hgrow (by simp; omega) (fun j hj => (hown3.lt j hj).1))
     have Q3 : Shut ((j + 1) * S + (r - S) = N) := ⟨by rw [Nat.add_mul]; have := hjr.out; omega⟩
     have hsub : (r : Int) - (S : Int) = ((r - S : Nat) : Int) := by omega
     clear hown' hgrow hown3 hb hown hjr
     go_wp2_with fail
     exact ⟨⟨j + 1, r - S, v', rfl, by rw [← hsub], by omega, by omega, Q3, hj2, Q1, Q2⟩, by simp [intOf]; omega⟩
    ·have hlt' : ¬ (S : Int) < (r : Int) := by omega
     have hle : (r : Int) ≤ (S : Int) := by omega
     have HSP : Shut (spanL S N = List.replicate j (S : Int) ++ [(r : Int)]) := ⟨by
      have h1 := hjr.out
      have e := span_last (S := S) (n := N) (j := j) (by omega) (by omega) (by omega)
      unfold spanL
      rw [e]
      congr 3
      omega⟩
     go_wp2_with (at_builtin; refine wpList_append_own _ rfl _ _ 37 rfl w.heap.size 3 i1 (.int .i64 0) 1 8 Tryz.underlying37 hi1 hy0 hy1 hy2 rfl (by decide) _ _ _ rfl (hown3.alloc _) ⟨wo.heap.size, 0, none⟩ 1 1 [.int .i64 (r : Int)] rfl rfl (cell_one_new _ _ _) ?c2 ?c3 ?c4 ?c5 ?_)
     case c2 => first | rfl | (intro u hu; simp at hu; subst hu; rfl)
     case c3 => unfold maxLen; omega
     case c4 => omega
     case c5 => first | omega | (simp; omega)
     intro v' w4 hown' hgrow _
     have Q1 : Shut (IAns w4 v' (spanL S N) w.heap.size w4.heap.size) := ⟨by
      rw [HSP.out]
      refine own_ians (n := j + 1) (by simp) ?_
      have e : ics (List.replicate j (S : Int) ++ [(r : Int)]) = ics (List.replicate j (S : Int)) ++ [.int .i64 (r : Int)] := by simp [ics]
      rw [e]; exact hown'⟩
     have Q2 := Shut.mk ((hb.out.alloc hso (.cells #[.int .i64 (r : Int)] 3)).grown hgrow (by simp; omega) (fun j hj => (hown3.lt j hj).1))
     clear hown' hgrow hown3 hb hown
     go_wp2_with fail
     go_ret
     exact ⟨v', rfl, Q1.out, Q2.out⟩
end Go.Proofs.YtakhagkhngmpaaaGreat
/- CpA: . -/
namespace Go.Proofs.YtakhagkhngmpaaaGreat
set_option maxRecDepth 100000
open Go.RowKit
theorem wc_by {w w' : World} {g : Nat} {q : Option Nat} {L : List Value} (h : WCells w g L) (hg : w.grownBy w' q) (hq : q ≠ some g) : WCells w' g L := by
 have hk := hg.block g h.1 (fun e => hq e.symm)
 refine ⟨Nat.lt_of_lt_of_le h.1 hg.size, fun i v hv => ?_⟩
 have h1 := h.2 i v hv
 simp only [World.cell?, World.frozen?, hk] at h1 ⊢
 exact h1
structure NB (w : World) (B : Nat) (v : Value) (rs : List NR) : Prop where
 own : w.ownsRow B 47 9 v rs.length (ncs rs)
 rows : ∀ r ∈ rs, w.ownsRow B 99 2 (.slice r.loc r.nd.pieces.length r.cap) r.nd.pieces.length (pcs r.nd.pieces)
 apart : rs.Pairwise fun r s => r.loc ≠ none → s.loc ≠ none → r.loc ≠ s.loc
theorem own_blk {w : World} {B t sz n : Nat} {v : Value} {L : List Value} (h : w.ownsRow B t sz v n L) (hn : n ≠ 0) : ∃ g cap cur, v = .slice (some ⟨g, 0, none⟩) n cap ∧ B ≤ g ∧ g < w.heap.size ∧ w.heap[g]? = some (.cells cur t (0, 0)) := by
 rcases h.2 with ⟨_, h0⟩ | ⟨g, cap, cur, e, h1, h2, _⟩
 ·exact absurd h0 hn
 ·exact ⟨g, cap, cur, e, h1, (Array.getElem?_eq_some_iff.1 h2).1, h2⟩
theorem own_blk' {w : World} {B t sz n g : Nat} {v : Value} {L : List Value} (h : w.ownsRow B t sz v n L) (e : v.ownBlock = some g) : ∃ cur, w.heap[g]? = some (.cells cur t (0, 0)) := by
 rcases h.2 with ⟨rfl, _⟩ | ⟨g', cap, cur, rfl, _, h2, _⟩
 ·cases e
 ·cases e; exact ⟨cur, h2⟩
theorem own_slice {w : World} {B n sz : Nat} {t : TypeId} {v : Value} {L : List Value} (h : w.ownsRow B t sz v n L) : ∃ a c, v = .slice a n c := by
 rcases h.2 with ⟨rfl, h0⟩ | ⟨g, cap, cur, e, _⟩
 ·exact ⟨none, 0, by rw [h0]⟩
 ·exact ⟨_, _, e⟩
theorem own_lower {w : World} {B C n sz : Nat} {t : TypeId} {v : Value} {L : List Value} (h : w.ownsRow B t sz v n L) (hC : C ≤ B) : w.ownsRow C t sz v n L := by
 refine ⟨h.1, ?_⟩
 rcases h.2 with q | ⟨g, cap, cur, e, h1, h2⟩
 ·exact .inl q
 ·exact .inr ⟨g, cap, cur, e, Nat.le_trans hC h1, h2⟩
theorem NB.nil (w : World) (B : Nat) : NB w B (.slice none 0 0) [] := ⟨by simpa [ncs] using World.ownsRow_nil w B 47 9, by simp, List.Pairwise.nil⟩
theorem NB.grown {w w' : World} {B : Nat} {v : Value} {rs : List NR} {q : Option Nat} (h : NB w B v rs) (hg : w.grownBy w' q) (hq : ∀ k, q = some k → k < B) : NB w' B v rs := by
 refine ⟨h.own.kept hg ?_, fun r hr => (h.rows r hr).kept hg ?_, h.apart⟩
 ·cases e : v.ownBlock with
  | none => exact .inl rfl
  | some k => exact .inr fun e2 => by have := hq k e2.symm; have := (h.own.lt k e).1; omega
 ·cases e : (Value.slice r.loc r.nd.pieces.length r.cap).ownBlock with
  | none => exact .inl rfl
  | some k => exact .inr fun e2 => by have := hq k e2.symm; have := ((h.rows r hr).lt k e).1; omega
theorem NB.below {w w' : World} {B : Nat} {v : Value} {rs : List NR} (h : NB w B v rs) (hb : Below w.heap.size w w') : NB w' B v rs :=
 h.grown (q := none) ⟨hb.os, hb.tape, hb.output, hb.size, fun k hk _ => hb.block k hk⟩ (fun k e => by cases e)
theorem NB.setBox {w : World} {B : Nat} {v : Value} {rs : List NR} (h : NB w B v rs) (g i : Nat) (x : Value) (hg : g < B) : NB (w.setCell ⟨g, i, none⟩ x) B v rs :=
 h.grown (gb_set' w g i x) (fun k e => by cases e; exact hg)
theorem NB.snoc {w w1 w2 : World} {B : Nat} {v v' : Value} {rs : List NR} {r : NR} (h : NB w B v rs) (hb : Below w.heap.size w w1) (hp : w1.ownsRow B 99 2 (.slice r.loc r.nd.pieces.length r.cap) r.nd.pieces.length (pcs r.nd.pieces))
  (hnew : r.loc ≠ none → ∀ s ∈ rs, s.loc ≠ none → s.loc ≠ r.loc) (ho : w2.ownsRow B 47 9 v' (rs.length + 1) (ncs rs ++ ncells r)) (hg : w1.grownBy w2 v.ownBlock) : NB w2 B v' (rs ++ [r]) := by
 have hN := h.below hb
 have keep : ∀ s : NR, w1.ownsRow B 99 2 (.slice s.loc s.nd.pieces.length s.cap) s.nd.pieces.length (pcs s.nd.pieces) → w2.ownsRow B 99 2 (.slice s.loc s.nd.pieces.length s.cap) s.nd.pieces.length (pcs s.nd.pieces) := fun s hr => by
  refine hr.kept hg ?_
  cases e : (Value.slice s.loc s.nd.pieces.length s.cap).ownBlock with
  | none => exact .inl rfl
  | some k =>
   refine .inr fun e2 => ?_
   obtain ⟨c1, h1⟩ := own_blk' hr e
   obtain ⟨c2, h2⟩ := own_blk' hN.own e2.symm
   rw [h1] at h2
   simp at h2
 refine ⟨?_, fun s hs => ?_, ?_⟩
 ·have e : ncs (rs ++ [r]) = ncs rs ++ ncells r := by simp [ncs]
  rw [e, List.length_append, List.length_singleton]
  exact ho
 ·rcases List.mem_append.1 hs with q | q
  ·exact keep s (hN.rows s q)
  ·rw [List.mem_singleton.1 q]
   exact keep r hp
 ·refine List.pairwise_append.2 ⟨h.apart, List.pairwise_singleton _ _, fun s hs t ht h1 h2 => ?_⟩
  rw [List.mem_singleton.1 ht] at h2 ⊢
  exact hnew h2 s hs h1
theorem own_loc {w : World} {B t sz n c : Nat} {a : Option Addr} {L : List Value} (h : w.ownsRow B t sz (.slice a n c) n L) (hn : n ≠ 0) : a ≠ none := by
 obtain ⟨g, cap, cur, e, _⟩ := own_blk h hn
 simp at e
 rw [e.1]
 simp
theorem NB.fin {w : World} {B : Nat} {v : Value} {rs : List NR} {nx : Int} (h : NB w B v rs) : TAns w (.agg #[v, .int .i64 nx]) ⟨nds rs, nx⟩ B w.heap.size := by
 have hown := h.own
 rcases hown.2 with ⟨rfl, h0⟩ | ⟨g, cap, cur, rfl, hB, hcur, hn, _⟩
 ·have : rs = [] := List.eq_nil_of_length_eq_zero h0
  subst this
  exact ⟨none, 0, [], rfl, rfl, Nat.le_refl _, .inl rfl⟩
 ·refine ⟨_, cap, rs, rfl, rfl, hn, .inr ⟨g, rfl, ?_⟩⟩
  refine ⟨own_wcells h.own, hB, (Array.getElem?_eq_some_iff.1 hcur).1, fun r hr => ?_, ?_⟩
  ·by_cases hp : r.nd.pieces = []
   ·exact .inl (by show pcs r.nd.pieces = []; rw [hp]; rfl)
   ·have hr' := h.rows r hr
    obtain ⟨b, cp, c2, e1, q1, q2, q3⟩ := own_blk hr' (by simpa using hp)
    have e2 : r.loc = some ⟨b, 0, none⟩ := (by simpa using e1 : r.loc = some ⟨b, 0, none⟩ ∧ r.cap = cp).1
    refine .inr ⟨b, e2, q1, q2, fun e => ?_, ?_⟩
    ·rw [e, hcur] at q3
     simp at q3
    ·rw [e2] at hr'
     exact own_wcells hr'
  ·have ha := List.pairwise_iff_getElem.1 h.apart
   refine List.pairwise_iff_getElem.2 (fun i j hi hj hij h1 h2 => ha i j hi hj hij ?_ ?_)
   ·exact own_loc (h.rows _ (List.getElem_mem hi)) (fun e => h1 (by show pcs rs[i].nd.pieces = []; rw [List.eq_nil_of_length_eq_zero e]; rfl))
   ·exact own_loc (h.rows _ (List.getElem_mem hj)) (fun e => h2 (by show pcs rs[j].nd.pieces = []; rw [List.eq_nil_of_length_eq_zero e]; rfl))
end Go.Proofs.YtakhagkhngmpaaaGreat
/- PathS: . -/
namespace Go.Proofs.YtakhagkhngmpaaaGreat
set_option maxRecDepth 100000
theorem flat_size (L : List (List UInt8)) (h : ∀ l ∈ L, nameL l = true) : ((L.map (47 :: ·)).flatten).length ≤ 9 * L.length := by
 induction L with
 | nil => simp
 | cons x L ih =>
  have h1 := (nameL_pos (h x (by simp))).2
  have h2 := ih fun l hl => h l (by simp [hl])
  simp only [List.map_cons, List.flatten_cons, List.length_append, List.length_cons]
  omega
theorem parent_small (p : ByteArray) : (parentB p).1.size ≤ 36 ∧ (parentB p).2.1.size ≤ 8 := by
 unfold parentB
 split
 ·rename_i hc
  obtain ⟨h1, h2⟩ := split_names (p := lb p)
  have hl : ∀ l ∈ (splitP (lb p)).1.dropLast, nameL l = true := fun l hl => h1 l (List.dropLast_subset _ hl)
  have e : (splitB p).1 = (splitP (lb p)).1.map ba := rfl
  dsimp only
  refine ⟨?_, ?_⟩
  ·have e2 : ((splitB p).1.dropLast.map lb) = (splitP (lb p)).1.dropLast := by
    rw [e, List.dropLast_eq_take, List.dropLast_eq_take, List.length_map, ← List.map_take, map_lb_ba]
   unfold joinB
   rw [e2]
   show (joinP _).toArray.size ≤ 36
   rw [List.size_toArray]
   unfold joinP
   split
   ·simp
   ·have h3 := flat_size _ hl
    rw [List.length_dropLast] at h3
    omega
  ·have hne := hc.2
   rcases List.eq_nil_or_concat (splitB p).1 with h0 | ⟨I, x, h0⟩
   ·exact absurd h0 hne
   ·rw [h0]
    have hx : x ∈ (splitB p).1 := by rw [h0]; simp
    have hn := (splitB_names p).1 x hx
    have := (nameL_pos (l := lb x) hn).2
    have e3 : (I ++ [x]).getLastD ⟨#[]⟩ = x := by simp [List.getLastD_eq_getLast?]
    rw [List.concat_eq_append, e3]
    exact this
 ·exact ⟨by decide, by decide⟩
end Go.Proofs.YtakhagkhngmpaaaGreat
/- SpnC: . -/
namespace Go.Proofs.YtakhagkhngmpaaaGreat
set_option maxRecDepth 100000
open Go.RowKit
attribute [local go_sem ↓] Go.wp_at_zero Go.wp_at_succ
end Go.Proofs.YtakhagkhngmpaaaGreat
/- HexM: . -/
namespace Go.Proofs.YtakhagkhngmpaaaGreat.W
open Go.PlainAid (bt)
def hfI (x : Int) : Int := if x < 10 then 48 + x else 87 + x
def hf (n : Nat) : UInt8 := UInt8.ofNat (hfI n).toNat
end Go.Proofs.YtakhagkhngmpaaaGreat.W
namespace Go.Proofs.YtakhagkhngmpaaaGreat
set_option maxRecDepth 100000
open Go.RowKit
open Go.PlainAid (bt)
end Go.Proofs.YtakhagkhngmpaaaGreat
/- SpnD: . -/
namespace Go.Proofs.YtakhagkhngmpaaaGreat
set_option maxRecDepth 100000
open Go.RowKit
attribute [local go_sem ↓] Go.wp_at_zero Go.wp_at_succ
structure TI (w wr : World) (ss : List SR) (ts : List SR) : Prop where
 rweq : rws ts = rws (ss.take ts.length)
 out : WCells wr w.heap.size (svs ts ++ List.replicate (ss.length - ts.length) (.slice none 0 0))
 rows : ∀ s ∈ ts, ∃ b, s.loc = some ⟨b, 0, none⟩ ∧ w.heap.size ≤ b ∧ b < wr.heap.size ∧ b ≠ w.heap.size ∧ WCells wr b (ics s.row) ∧ s.row.length ≤ s.cap
 apart : (ts.map SR.loc).Nodup
 bel : Below w.heap.size w wr
theorem set_mid (A B : List Value) (x y : Value) (k : Nat) (h : A.length = k) : (A ++ x :: B).set k y = A ++ y :: B := by
 subst h
 rw [List.set_append_right _ _ (Nat.le_refl _)]
 simp
theorem TI.next {w wr w1 : World} {ss ts : List SR} {g1 : Nat} {row : List Int} {n : Nat} (h : TI w wr ss ts) (hk : ts.length < ss.length) (hrow : (ss[ts.length]).row = row) (hn : n = row.length) (hw : w.heap.size < wr.heap.size)
  (hg1 : wr.heap.size ≤ g1) (hc : WCells w1 g1 (ics row)) (hb : Below wr.heap.size wr w1) : TI w (w1.setCell ⟨w.heap.size, ts.length, none⟩ (.slice (some ⟨g1, 0, none⟩) n n)) ss (ts ++ [SR.mk (some ⟨g1, 0, none⟩) row row.length]) := by
 subst hn
 have hne : g1 ≠ w.heap.size := by omega
 have hsz : (w1.setCell ⟨w.heap.size, ts.length, none⟩ (.slice (some ⟨g1, 0, none⟩) row.length row.length)).heap.size = w1.heap.size := by simp [World.setCell]
 have hgs : w1.grownBy (w1.setCell ⟨w.heap.size, ts.length, none⟩ (.slice (some ⟨g1, 0, none⟩) row.length row.length)) (some w.heap.size) := gb_set' _ _ _ _
 refine ⟨?_, ?_, ?_, ?_, ?_⟩
 ·rw [rws_snoc, h.rweq, List.length_append, List.length_singleton, List.take_succ_eq_append_getElem hk, rws_snoc, hrow]
 ·have o := (h.out.below hb h.out.1).set ts.length (.slice (some ⟨g1, 0, none⟩) row.length row.length) (by rw [List.length_append, svs_len, List.length_replicate]; omega)
  obtain ⟨m, hm⟩ : ∃ m, ss.length - ts.length = m + 1 := ⟨ss.length - ts.length - 1, by omega⟩
  rw [hm, List.replicate_succ, set_mid _ _ _ _ _ (svs_len ts)] at o
  have e : svs (ts ++ [SR.mk (some ⟨g1, 0, none⟩) row row.length]) ++ List.replicate (ss.length - (ts ++ [SR.mk (some ⟨g1, 0, none⟩) row row.length]).length) (.slice none 0 0) = svs ts ++ .slice (some ⟨g1, 0, none⟩) row.length row.length :: List.replicate m (.slice none 0 0) := by
   rw [List.length_append, List.length_singleton, show ss.length - (ts.length + 1) = m by omega]
   simp [svs, srv]
  rw [e]
  exact o
 ·intro s hs
  rcases List.mem_append.1 hs with h1 | h1
  ·obtain ⟨b, e, q1, q2, q3, q4, q5⟩ := h.rows s h1
   exact ⟨b, e, q1, by rw [hsz]; exact Nat.lt_of_lt_of_le q2 hb.size, q3, (q4.below hb q4.1).apart hgs q3, q5⟩
  ·simp at h1
   subst h1
   exact ⟨g1, rfl, by omega, by rw [hsz]; exact hc.1, hne, hc.apart hgs hne, Nat.le_refl _⟩
 ·rw [List.map_append, List.nodup_append]
  refine ⟨h.apart, by simp, fun l hl l' hl' => ?_⟩
  obtain ⟨s, hs, rfl⟩ := List.mem_map.1 hl
  simp only [List.map_cons, List.map_nil, List.mem_singleton] at hl'
  subst hl'
  obtain ⟨b, e, _, q2, _⟩ := h.rows s hs
  rw [e]
  intro e2
  have e4 : b = g1 := congrArg Addr.block (Option.some.inj e2)
  omega
 ·exact (h.bel.trans (hb.mono h.bel.size)).setCell (p := ⟨w.heap.size, ts.length, none⟩) (Nat.le_refl _) _
theorem TI.fin {w wr : World} {ss ts : List SR} (h : TI w wr ss ts) (hl : ts.length = ss.length) : rws ts = rws ss ∧ MW wr w.heap.size ts w.heap.size wr.heap.size := by
 refine ⟨by rw [h.rweq, hl, List.take_of_length_le (Nat.le_refl _)], ?_, Nat.le_refl _, h.out.1, h.rows, h.apart⟩
 have := h.out
 rwa [hl, Nat.sub_self, List.replicate_zero, List.append_nil] at this
end Go.Proofs.YtakhagkhngmpaaaGreat
/- SpnE: . -/
namespace Go.Proofs.YtakhagkhngmpaaaGreat
set_option maxRecDepth 100000
open Go.RowKit
end Go.Proofs.YtakhagkhngmpaaaGreat
/- TreL: . -/
namespace Go.Proofs.YtakhagkhngmpaaaGreat
set_option maxRecDepth 100000
open Go.RowKit
attribute [local go_sem ↓] Go.wp_at_zero Go.wp_at_succ
def newX : TM := ⟨[⟨1, 0, ⟨#[]⟩, true, 1, 0, 0, [], 0⟩], 2⟩
def newR : NR := ⟨⟨1, 0, ⟨#[]⟩, true, 1, 0, 0, [], 0⟩, none, 0⟩
end Go.Proofs.YtakhagkhngmpaaaGreat
/- GrwC: . -/
namespace Go.Proofs.YtakhagkhngmpaaaGreat
set_option maxRecDepth 100000
open Go.RowKit
section
variable {P : Program} {ops : Array Oper} {Q : Exit → Act → World → Prop} {md : Region.Mode} {m : Nat}
def tailed (m : Nat) (ops : Array Oper) (l : Array Bool) : Bool := (List.range m).all fun j => l.getD j true || decide (ops.size ≤ j)
theorem tailed_spec {l : Array Bool} (h : tailed m ops l = true) {j : Nat} (hj : l.getD j true = false) (hs : j < ops.size) : m ≤ j := by
 refine Nat.le_of_not_lt fun hlt => ?_
 have := List.all_eq_true.1 h j (by simpa using hlt)
 rw [hj, Bool.false_or, decide_eq_true_eq] at this
 omega
def wpK (P : Program) (md : Region.Mode) (ops : Array Oper) (Q : Exit → Act → World → Prop) (m : Nat) : Nat → Array Bool → Act → World → Prop
 | 0, l, a, w => ∀ x, Later w x → wpAny P md ops Q 0 l a x
 | n + 1, l, a, w => (tailed m ops l = true ∧ ∀ x, Later w x → wpAny P md ops Q (n + 1) l a x) ∨ (∀ x, Later w x → (Region.ready md ops l = [] → Q .normal a x) ∧
   ∀ i ∈ Region.ready md ops l, wpOp P ops Q i (fun a' y => Later x y ∧ wpK P md ops Q m n (l.setIfInBounds i true) a' y) a x)
theorem wpK_later : ∀ (n : Nat) (l : Array Bool) (a : Act) (w y : World), Later w y → wpK P md ops Q m n l a w → wpK P md ops Q m n l a y
 | 0, _, _, _, _, hy, h => fun x hx => h x (hy.trans hx)
 | _ + 1, _, _, _, _, hy, h => h.imp (fun q => ⟨q.1, fun x hx => q.2 x (hy.trans hx)⟩) (fun q x hx => q x (hy.trans hx))
theorem wpAny_of_K : ∀ (n : Nat) (l : Array Bool) (a : Act) (w : World), wpK P md ops Q m n l a w → wpAny P md ops Q n l a w
 | 0, _, _, w, h => h w (Later.refl w)
 | n + 1, _, _, w, h => by
  rcases h with h | h
  ·exact h.2 w (Later.refl w)
  ·exact ⟨(h w (Later.refl w)).1, fun i hi => wpOp_mono (fun a' y hh => wpAny_of_K n _ a' y hh.2) ((h w (Later.refl w)).2 i hi)⟩
def clo (md : Region.Mode) (ops : Array Oper) (l : Array Bool) (i : Nat) : List Nat := (List.range ops.size).foldl (fun acc f => if !(l.getD f true) && (((ops[f]?).map fun o => o.after.any fun e => Region.binds md e && ((e.on == i) || acc.contains e.on)) == some true) then f :: acc else acc) []
def waits (md : Region.Mode) (m : Nat) (ops : Array Oper) (l : Array Bool) (i : Nat) (C : List Nat) : Bool :=
 (C.all fun c => !(l.getD c true) && (((ops[c]?).map fun o => o.after.any fun e => Region.binds md e && ((e.on == i) || C.contains e.on)) == some true)) && ((List.range ops.size).all fun f => decide (f < m) || l.getD f true || C.contains f)
theorem getD_clash {l : Array Bool} {k : Nat} (h1 : l.getD k true = false) (h2 : l.getD k false = true) : False := by
 unfold Array.getD at h1 h2
 split at h1
 ·rename_i h
  rw [dif_pos h] at h2
  rw [h1] at h2
  cases h2
 ·cases h1
theorem waits_spec {l : Array Bool} {i : Nat} {C : List Nat} (h : waits md m ops l i C = true) (hi : l.getD i true = false) : ∀ c ∈ C, c ∉ Region.ready md ops l := by
 unfold waits at h
 rw [Bool.and_eq_true] at h
 intro c hc hr
 have h1 := List.all_eq_true.1 h.1 c hc
 rw [Bool.and_eq_true] at h1
 obtain ⟨-, o, ho, hall⟩ := mem_ready.1 hr
 rw [ho] at h1
 simp only [Option.map_some, beq_iff_eq, Option.some.injEq] at h1
 have h2 := h1.2
 rw [Array.any_eq_true'] at h2
 obtain ⟨e, he, q⟩ := h2
 rw [Bool.and_eq_true, Bool.or_eq_true] at q
 have hd := hall e he q.1
 rcases q.2 with q2 | q2
 ·rw [beq_iff_eq] at q2
  rw [q2] at hd
  exact getD_clash hi hd
 ·have hm : e.on ∈ C := by simpa using q2
  have h3 := List.all_eq_true.1 h.1 _ hm
  rw [Bool.and_eq_true, Bool.not_eq_true'] at h3
  exact getD_clash h3.1 hd
theorem waits_last {l : Array Bool} {i f : Nat} {C : List Nat} (h : waits md m ops l i C = true) (hf : m ≤ f) (hu : l.getD f true = false) (hs : f < ops.size) : f ∈ C := by
 unfold waits at h
 rw [Bool.and_eq_true] at h
 have := List.all_eq_true.1 h.2 f (by simpa using hs)
 rw [hu, Bool.or_false, Bool.or_eq_true, decide_eq_true_eq] at this
 rcases this with q | q
 ·omega
 ·simpa using q
theorem waits_step {l : Array Bool} {i j : Nat} {C : List Nat} (h : waits md m ops l i C = true) (hj : j ∉ C) : waits md m ops (l.setIfInBounds j true) i C = true := by
 unfold waits at h ⊢
 rw [Bool.and_eq_true] at h ⊢
 refine ⟨List.all_eq_true.2 fun c hc => ?_, List.all_eq_true.2 fun f hf => ?_⟩
 ·have h1 := List.all_eq_true.1 h.1 c hc
  have hcj : j ≠ c := fun e => hj (e ▸ hc)
  rw [getD_set_ne true hcj]
  exact h1
 ·have h1 := List.all_eq_true.1 h.2 f hf
  by_cases e : j = f
  ·subst e
   have : (l.setIfInBounds j true).getD j true = true := by
    simp only [Array.getD]
    split
    ·simp
    ·rfl
   rw [this]
   simp
  ·rw [getD_set_ne true e]
   exact h1
theorem wpK_first {i : Nat} {oi : Oper} {v : Value} {C : List Nat} (hi : ops[i]? = some oi) (hsel : ∀ (j : Nat) (o : Oper) cs b, ops[j]? = some o → o.op ≠ .select cs b) (hQ : ∀ c a w, Q (.panic c) (a.put oi.dst v) w → Q (.panic c) a w) :
  ∀ (n : Nat) (l : Array Bool) (a : Act) (w : World), waits md m ops l i C = true → (∀ j oj, ops[j]? = some oj → j ≠ i → l.getD j true = false → (∀ e ∈ oj.after, Region.binds md e = true → e.on ≠ i) → oi.apart ops oj = true) →
   i ∈ Region.ready md ops l → YL P ops oi v a w → wpK P md ops Q m n (l.setIfInBounds i true) (a.put oi.dst v) w → wpK P md ops Q m (n + 1) l a w := by
 intro n
 induction n with
 | zero =>
  intro l a w _ _ hr hy H
  refine .inr fun x hx => ⟨fun h => (by rw [h] at hr; cases hr), fun j hj => ?_⟩
  by_cases hji : j = i
  ·subst hji
   exact hy.op hi hx fun y hxy => ⟨hxy, wpK_later 0 _ _ _ _ (hx.trans hxy) H⟩
  ·have q := ready_mono hj hji
   rw [(H w (Later.refl w)).1] at q
   cases q
 | succ n ih =>
  intro l a w hwt hfree hr hy H
  refine .inr fun x hx => ⟨fun h => (by rw [h] at hr; cases hr), fun j hj => ?_⟩
  by_cases hji : j = i
  ·subst hji
   exact hy.op hi hx fun y hxy => ⟨hxy, wpK_later (n + 1) _ _ _ _ (hx.trans hxy) H⟩
  ·obtain ⟨hun, oj, hoj, -⟩ := mem_ready.1 hj
   have hjC : j ∉ C := fun hc => waits_spec hwt (mem_ready.1 hr).1 j hc hj
   rcases H with H | H
   ·have hju : (l.setIfInBounds i true).getD j true = false := by rw [getD_set_ne true (Ne.symm hji)]; exact hun
    have hjs := (Array.getElem?_eq_some_iff.1 hoj).1
    have hjm := tailed_spec H.1 hju hjs
    exact absurd (waits_last hwt hjm hun hjs) hjC
   ·have q := op_beside hoj (hfree j oj hoj hji hun (ready_free hr hj hoj)) (fun cs b => hsel i oi cs b hi) (fun cs b => hsel j oj cs b hoj) hQ hy ((H x hx).2 j (ready_mono hj hji))
    refine wpOp_mono (fun b y hb => ⟨hb.2.1, ih (l.setIfInBounds j true) b y (waits_step hwt hjC) (fun k ok hk hki hku hno => hfree k ok hk hki ?_ hno) (ready_mono hr (Ne.symm hji)) (hb.1.later (hx.trans hb.2.1)) ?_⟩) q
    ·by_cases hjk : j = k
     ·subst hjk; exact hun
     ·rw [getD_set_ne true hjk] at hku; exact hku
    ·rw [Array.setIfInBounds_comm _ _ hji]
     exact hb.2.2
theorem wpK_tail {l : Array Bool} {a : Act} {w : World} (ht : tailed m ops l = true) : ∀ {n : Nat}, (∀ x, Later w x → wpAny P md ops Q n l a x) → wpK P md ops Q m n l a w
 | 0, h => h
 | _ + 1, h => .inl ⟨ht, h⟩
theorem wpK_done {l : Array Bool} {a : Act} {w : World} (hr : Region.ready md ops l = []) (h : ∀ x, Later w x → Q .normal a x) : ∀ n, wpK P md ops Q m n l a w
 | 0 => fun x hx => ⟨hr, h x hx⟩
 | _ + 1 => .inr fun x hx => ⟨fun _ => h x hx, by rw [hr]; simp⟩
theorem wp_region_tail {id : Nat} {a : Act} {w : World} (m : Nat) (hm : P.follows .mixedOrders = true) (h : wpK P .any ops Q m ops.size (Array.replicate ops.size false) a w.drew) : (Code.region id ops true).wp P Q a w :=
 wp_region_any hm (wpAny_of_K _ _ _ _ h)
end
section
variable {P : Program} {Q : Exit → Act → World → Prop} {md : Region.Mode} {m : Nat}
theorem wpK_val {L r : List Oper} {i : Nat} {oi : Oper} {v : Value} {n : Nat} {l : Array Bool} {a : Act} {w : World} (hi : L.drop i = oi :: r) (hs : Region.noSelect L.toArray = true) (hf : Region.free md L.toArray l i = true) (hr : (Region.ready md L.toArray l).contains i = true) (ht : waits md m L.toArray l i (clo md L.toArray l i) = true)
  (hQ : ∀ c a w, Q (.panic c) (a.put oi.dst v) w → Q (.panic c) a w) (hw : Region.wanted oi (yielded L.toArray a.tmps) = true) (hy : ∀ x, Later w x → (execOp a.eval oi).run P x = .ok (.value v) x)
  (h : wpK P md L.toArray Q m n (l.setIfInBounds i true) (a.put oi.dst v) w) : wpK P md L.toArray Q m (n + 1) l a w :=
 wpK_first (at_drop hi) (Region.noSelect_spec hs) hQ n l a w ht (Region.free_spec (at_drop hi) hf) (by simpa using hr) (Or.inl ⟨hw, fun x hx => by unfold Oper.quietAt; rw [hy x hx]; exact ⟨rfl, rfl⟩⟩) h
theorem wpK_call {L r : List Oper} {i : Nat} {oi : Oper} {v : Value} {f : FuncId} {args : Array Value} {n : Nat} {l : Array Bool} {a : Act} {w : World} (hi : L.drop i = oi :: r) (hs : Region.noSelect L.toArray = true) (hf : Region.free md L.toArray l i = true) (hr : (Region.ready md L.toArray l).contains i = true) (ht : waits md m L.toArray l i (clo md L.toArray l i) = true)
  (hQ : ∀ c a w, Q (.panic c) (a.put oi.dst v) w → Q (.panic c) a w) (hw : Region.wanted oi (yielded L.toArray a.tmps) = true) (hy : ∀ x, Later w x → (execOp a.eval oi).run P x = .ok (.enter f args) x)
  (hc : ∀ x, Later w x → Calls P f args x fun e y => e = .returned v ∧ Below x.heap.size x y)
  (h : wpK P md L.toArray Q m n (l.setIfInBounds i true) (a.put oi.dst v) w) : wpK P md L.toArray Q m (n + 1) l a w :=
 wpK_first (at_drop hi) (Region.noSelect_spec hs) hQ n l a w ht (Region.free_spec (at_drop hi) hf) (by simpa using hr) (Or.inl ⟨hw, fun x hx => by unfold Oper.quietAt; rw [hy x hx]; exact ⟨rfl, hc x hx⟩⟩) h
theorem wpK_one {L r : List Oper} {i : Nat} {oi : Oper} {n : Nat} {l : Array Bool} {a : Act} {w : World} (hr : Region.ready md L.toArray l = [i]) (hi : L.drop i = oi :: r) (hw : Region.wanted oi (yielded L.toArray a.tmps) = true)
  (h : ∀ x, Later w x → ∃ (v : Value) (y : World), (execOp a.eval oi).run P x = .ok (.value v) y ∧ Later x y ∧ wpK P md L.toArray Q m n (l.setIfInBounds i true) (a.put oi.dst v) y) : wpK P md L.toArray Q m (n + 1) l a w := by
 refine .inr fun x hx => ?_
 rw [hr]
 refine ⟨fun h => (by cases h), fun j hj => ?_⟩
 rw [List.mem_singleton] at hj
 subst hj
 obtain ⟨v, y, h1, h2, h3⟩ := h x hx
 unfold wpOp
 rw [at_drop hi]
 dsimp only
 rw [if_pos hw]
 refine Or.inl ?_
 unfold Oper.wp
 rw [h1]
 exact ⟨h2, h3⟩
theorem wpK_onecall {L r : List Oper} {i : Nat} {oi : Oper} {f : FuncId} {args : Array Value} {n : Nat} {l : Array Bool} {a : Act} {w : World} (hr : Region.ready md L.toArray l = [i]) (hi : L.drop i = oi :: r) (hw : Region.wanted oi (yielded L.toArray a.tmps) = true)
  (hy : ∀ x, Later w x → (execOp a.eval oi).run P x = .ok (.enter f args) x)
  (h : ∀ x, Later w x → Calls P f args x fun e y => ∃ v, e = .returned v ∧ Below x.heap.size x y ∧ wpK P md L.toArray Q m n (l.setIfInBounds i true) (a.put oi.dst v) y) : wpK P md L.toArray Q m (n + 1) l a w := by
 refine .inr fun x hx => ?_
 rw [hr]
 refine ⟨fun h => (by cases h), fun j hj => ?_⟩
 rw [List.mem_singleton] at hj
 subst hj
 unfold wpOp
 rw [at_drop hi]
 dsimp only
 rw [if_pos hw]
 refine Or.inl ?_
 unfold Oper.wp
 rw [hy x hx]
 exact (h x hx).mono (by rintro e y ⟨v, rfl, h1, h2⟩; exact ⟨h1, h2⟩)
theorem wpK_callbox {L r r' : List Oper} {i j : Nat} {oi oj : Oper} {f : FuncId} {args : Array Value} {n : Nat} {l : Array Bool} {a : Act} {w : World} {C : Array Value} {t : TypeId}
  (hr : Region.ready md L.toArray l = [i, j]) (hi : L.drop i = oi :: r) (hj : L.drop j = oj :: r') (hw : Region.wanted oi (yielded L.toArray a.tmps) = true) (hwj : Region.wanted oj (yielded L.toArray a.tmps) = true)
  (hy : ∀ x, Later w x → (execOp a.eval oi).run P x = .ok (.enter f args) x) (hz : ∀ x, Later w x → (execOp a.eval oj).run P x = .ok (.value (.pointer (some ⟨x.heap.size, 0, none⟩))) (x.alloc (.cells C t)))
  (h1 : ∀ x, Later w x → Calls P f args x fun e y => ∃ v, e = .returned v ∧ Below x.heap.size x y ∧ wpK P md L.toArray Q m n (l.setIfInBounds i true) (a.put oi.dst v) y)
  (h2 : ∀ x, Later w x → wpK P md L.toArray Q m n (l.setIfInBounds j true) (a.put oj.dst (.pointer (some ⟨x.heap.size, 0, none⟩))) (x.alloc (.cells C t))) : wpK P md L.toArray Q m (n + 1) l a w := by
 refine .inr fun x hx => ?_
 rw [hr]
 refine ⟨fun h => (by cases h), fun k hk => ?_⟩
 rw [List.mem_cons, List.mem_singleton] at hk
 unfold wpOp
 rcases hk with rfl | rfl
 ·rw [at_drop hi]
  dsimp only
  rw [if_pos hw]
  refine Or.inl ?_
  unfold Oper.wp
  rw [hy x hx]
  exact (h1 x hx).mono (by rintro e y ⟨v, rfl, q1, q2⟩; exact ⟨q1, q2⟩)
 ·rw [at_drop hj]
  dsimp only
  rw [if_pos hwj]
  refine Or.inl ?_
  unfold Oper.wp
  rw [hz x hx]
  exact ⟨(Below.refl _ _).alloc (Nat.le_refl _) _, h2 x hx⟩
theorem wpA_first {ops : Array Oper} {i : Nat} {oi : Oper} {v : Value} (hi : ops[i]? = some oi) (hsel : ∀ (j : Nat) (o : Oper) cs b, ops[j]? = some o → o.op ≠ .select cs b) (hQ : ∀ c a w, Q (.panic c) (a.put oi.dst v) w → Q (.panic c) a w) :
  ∀ (n : Nat) (l : Array Bool) (a : Act) (w : World), (∀ j oj, ops[j]? = some oj → j ≠ i → l.getD j true = false → (∀ e ∈ oj.after, Region.binds md e = true → e.on ≠ i) → oi.apart ops oj = true) →
   i ∈ Region.ready md ops l → Region.wanted oi (yielded ops a.tmps) = true → (∀ x, (execOp a.eval oi).run P x = .ok (.value v) x) → wpAny P md ops Q n (l.setIfInBounds i true) (a.put oi.dst v) w → wpAny P md ops Q (n + 1) l a w := by
 intro n
 induction n with
 | zero =>
  intro l a w _ hr hw hy H
  refine ⟨fun h => (by rw [h] at hr; cases hr), fun j hj => ?_⟩
  by_cases hji : j = i
  ·subst hji
   unfold wpOp
   rw [hi]
   dsimp only
   rw [if_pos hw]
   refine Or.inl ?_
   unfold Oper.wp
   rw [hy w]
   exact H
  ·have q := ready_mono hj hji
   rw [H.1] at q
   cases q
 | succ n ih =>
  intro l a w hfree hr hw hy H
  refine ⟨fun h => (by rw [h] at hr; cases hr), fun j hj => ?_⟩
  by_cases hji : j = i
  ·subst hji
   unfold wpOp
   rw [hi]
   dsimp only
   rw [if_pos hw]
   refine Or.inl ?_
   unfold Oper.wp
   rw [hy w]
   exact H
  ·obtain ⟨hun, oj, hoj, -⟩ := mem_ready.1 hj
   have hap := hfree j oj hoj hji hun (ready_free hr hj hoj)
   have h3 := (Oper.apart_spec hap).2.2
   have q := op_frame hoj (wpOp_putIf (S := fun _ => False) hoj hap (fun cs b => hsel i oi cs b hi) (fun cs b => hsel j oj cs b hoj) hQ (Or.inl ⟨hw, fun _ hf => hf.elim⟩) (H.2 j (ready_mono hj hji)))
   refine wpOp_mono ?_ q
   have step : ∀ (b : Act) (y : World), execOp b.eval oi = execOp a.eval oi → Region.wanted oi (yielded ops b.tmps) = Region.wanted oi (yielded ops a.tmps) → wpAny P md ops Q n ((l.setIfInBounds i true).setIfInBounds j true) (b.put oi.dst v) y → wpAny P md ops Q (n + 1) (l.setIfInBounds j true) b y := fun b y e1 e2 hk => by
    refine ih (l.setIfInBounds j true) b y (fun k ok hk hki hku hno => hfree k ok hk hki ?_ hno) (ready_mono hr (Ne.symm hji)) (by rw [e2]; exact hw) (fun x => by rw [e1]; exact hy x) ?_
    ·by_cases hjk : j = k
     ·subst hjk; exact hun
     ·rw [getD_set_ne true hjk] at hku; exact hku
    ·rw [Array.setIfInBounds_comm _ _ hji]
     exact hk
   rintro b y ⟨⟨u, rfl | ⟨f, rfl⟩⟩, -, hk⟩
   ·exact step _ _ (execOp_put oi (fun cs b => hsel i oi cs b hi) a oj.dst u h3) (wanted_put oi a oj.dst u h3) hk
   ·exact step _ _ (execOp_put oi (fun cs b => hsel i oi cs b hi) { a with defers := f :: a.defers } oj.dst u h3) (wanted_put oi { a with defers := f :: a.defers } oj.dst u h3) hk
theorem wpA_val {L r : List Oper} {i : Nat} {oi : Oper} {v : Value} {n : Nat} {l : Array Bool} {a : Act} {w : World} (hi : L.drop i = oi :: r) (hs : Region.noSelect L.toArray = true) (hf : Region.free md L.toArray l i = true) (hr : (Region.ready md L.toArray l).contains i = true)
  (hQ : ∀ c a w, Q (.panic c) (a.put oi.dst v) w → Q (.panic c) a w) (hw : Region.wanted oi (yielded L.toArray a.tmps) = true) (hy : ∀ x, (execOp a.eval oi).run P x = .ok (.value v) x)
  (h : wpAny P md L.toArray Q n (l.setIfInBounds i true) (a.put oi.dst v) w) : wpAny P md L.toArray Q (n + 1) l a w :=
 wpA_first (at_drop hi) (Region.noSelect_spec hs) hQ n l a w (Region.free_spec (at_drop hi) hf) (by simpa using hr) hw hy h
theorem wpA_call {L r : List Oper} {i : Nat} {oi : Oper} {f : FuncId} {args : Array Value} {n : Nat} {l : Array Bool} {a : Act} {w : World} (hr : Region.ready md L.toArray l = [i]) (hi : L.drop i = oi :: r) (hw : Region.wanted oi (yielded L.toArray a.tmps) = true) (hy : (execOp a.eval oi).run P w = .ok (.enter f args) w)
  (hd : Region.ready md L.toArray (l.setIfInBounds i true) = []) (h : Calls P f args w fun e y => ∃ v, e = .returned v ∧ Q .normal (a.put oi.dst v) y) : wpAny P md L.toArray Q (n + 1) l a w := by
 refine ⟨fun h => (by rw [hr] at h; cases h), fun j hj => ?_⟩
 rw [hr, List.mem_singleton] at hj
 subst hj
 unfold wpOp
 rw [at_drop hi]
 dsimp only
 rw [if_pos hw]
 refine Or.inl ?_
 unfold Oper.wp
 rw [hy]
 refine h.mono ?_
 rintro e y ⟨v, rfl, hq⟩
 cases n with
 | zero => exact ⟨hd, hq⟩
 | succ n => exact ⟨fun _ => hq, by rw [hd]; simp⟩
theorem wpA_step {L r : List Oper} {i : Nat} {oi : Oper} {n : Nat} {l : Array Bool} {a : Act} {w y : World} (hr : Region.ready md L.toArray l = [i]) (hi : L.drop i = oi :: r) (hw : Region.wanted oi (yielded L.toArray a.tmps) = true) (hy : (execOp a.eval oi).run P w = .ok .skip y)
  (h : wpAny P md L.toArray Q n (l.setIfInBounds i true) (a.put oi.dst undef) y) : wpAny P md L.toArray Q (n + 1) l a w := by
 refine ⟨fun h => (by rw [hr] at h; cases h), fun j hj => ?_⟩
 rw [hr, List.mem_singleton] at hj
 subst hj
 unfold wpOp
 rw [at_drop hi]
 dsimp only
 rw [if_pos hw]
 refine Or.inl ?_
 unfold Oper.wp
 rw [hy]
 exact h
theorem wpA_done {ops : Array Oper} {l : Array Bool} {a : Act} {w : World} (hr : Region.ready md ops l = []) (h : Q .normal a w) : ∀ n, wpAny P md ops Q n l a w
 | 0 => ⟨hr, h⟩
 | _ + 1 => ⟨fun _ => h, by rw [hr]; simp⟩
theorem wpA_store {L r : List Oper} {i : Nat} {oi : Oper} {n : Nat} {l : Array Bool} {a : Act} {w y : World} (hr : Region.ready md L.toArray l = [i]) (hi : L.drop i = oi :: r) (hw : Region.wanted oi (yielded L.toArray a.tmps) = true) (hy : (execOp a.eval oi).run P w = .ok .skip y)
  (hd : Region.ready md L.toArray (l.setIfInBounds i true) = []) (h : Q .normal (a.put oi.dst undef) y) : wpAny P md L.toArray Q (n + 1) l a w := by
 refine ⟨fun h => (by rw [hr] at h; cases h), fun j hj => ?_⟩
 rw [hr, List.mem_singleton] at hj
 subst hj
 unfold wpOp
 rw [at_drop hi]
 dsimp only
 rw [if_pos hw]
 refine Or.inl ?_
 unfold Oper.wp
 rw [hy]
 cases n with
 | zero => exact ⟨hd, h⟩
 | succ n => exact ⟨fun _ => h, by rw [hd]; simp⟩
end
section
variable {P : Program} {ops : Array Oper} {Q : Exit → Act → World → Prop} {md : Region.Mode} {tl : Nat → Bool}
end
section
variable {P : Program} {Q : Exit → Act → World → Prop} {md : Region.Mode} {tl : Nat → Bool}
end
end Go.Proofs.YtakhagkhngmpaaaGreat
/- OpenM: . -/
namespace Go.Proofs.YtakhagkhngmpaaaGreat
set_option maxRecDepth 100000
open Go.RowKit Go.Deep Go.ChangeShapes Go.WideShapes
end Go.Proofs.YtakhagkhngmpaaaGreat
/- EdC: . -/
namespace Go.Proofs.YtakhagkhngmpaaaGreat
set_option maxRecDepth 100000
open Go.RowKit Go.Deep Go.ChangeShapes Go.WideShapes
attribute [local go_sem ↓] Go.wp_at_zero Go.wp_at_succ
end Go.Proofs.YtakhagkhngmpaaaGreat
/- TreB: . -/
namespace Go.Proofs.YtakhagkhngmpaaaGreat
set_option maxRecDepth 100000
open Go.RowKit
attribute [local go_sem ↓] Go.wp_at_zero Go.wp_at_succ
def NInt (ns : List NM) : Prop := ∀ n ∈ ns, (Lit.int .i64 n.id).wf = true ∧ (Lit.int .i64 n.parent).wf = true
end Go.Proofs.YtakhagkhngmpaaaGreat
/- TreG: . -/
namespace Go.Proofs.YtakhagkhngmpaaaGreat
set_option maxRecDepth 100000
open Go.RowKit
def markPs (k n : Nat) : List PM := (List.range n).map fun i => ⟨((k + 2 * i : Nat) : Int), ((k + 2 * i + 1 : Nat) : Int)⟩
def markDir (k : Nat) : Bool := decide (k % 3 = 0)
def markN (k np : Nat) : NM := ⟨(k : Int), ((k + 1 : Nat) : Int), mt (k + 2), markDir (k + 3), ((k + 4 : Nat) : Int), ((k + 5 : Nat) : Int), ((k + 6 : Nat) : Int), markPs (k + 7) np, ((k + 7 + 2 * np : Nat) : Int)⟩
def markRs (k : Nat) : List NR → List NR
 | [] => []
 | r :: rs => ⟨markN k r.nd.pieces.length, r.loc, r.cap⟩ :: markRs (k + 8 + 2 * r.nd.pieces.length) rs
theorem ncs_get (ts : List NR) (j : Nat) (h : j < ts.length) (i : Nat) (hi : i < 9) : (ncs ts)[j * 9 + i]? = (ncells ts[j])[i]? := flat_get ncells_len ts j h i hi
theorem ncs_set1 (ts : List NR) (i : Nat) (hi : i < ts.length) (f : Nat) (hf : f < 9) (r : NR) (v : Value) (h1 : (ncells r)[f]? = some v) (h2 : ∀ q, q < 9 → q ≠ f → (ncells r)[q]? = (ncells ts[i])[q]?) : (ncs ts).set (i * 9 + f) v = ncs (ts.set i r) := by
 have hlen : (ncs ts).length = ts.length * 9 := ncs_len ts
 apply List.ext_getElem?
 intro n
 by_cases hn : n < ts.length * 9
 ·have hs := flat_set ncells_len ts i hi r n hn
  show _ = ((ts.set i r).flatMap ncells)[n]?
  rw [hs]
  have hm := Nat.mod_lt n (show 0 < 9 by decide)
  have he : n = n / 9 * 9 + n % 9 := by omega
  by_cases e : n = i * 9 + f
  ·have e1 : n / 9 = i := by omega
   have e2 : n % 9 = f := by omega
   rw [if_pos e1, e2, h1, ← e, List.getElem?_set_self (by rw [hlen]; exact hn)]
  ·rw [List.getElem?_set_ne (by omega)]
   by_cases e1 : n / 9 = i
   ·rw [if_pos e1, h2 _ hm (by omega)]
    have := ncs_get ts i hi (n % 9) hm
    rw [← this]
    congr 1
    omega
   ·rw [if_neg e1]; rfl
 ·rw [List.getElem?_eq_none (by rw [List.length_set, hlen]; omega), List.getElem?_eq_none (by rw [ncs_len, List.length_set]; omega)]
theorem apart_set {rs : List NR} (h : rs.Pairwise fun r s => NKind.inn r ≠ [] → NKind.inn s ≠ [] → NKind.loc r ≠ NKind.loc s) (j : Nat) (hj : j < rs.length) (r : NR) (hi : pcs r.nd.pieces ≠ [] → pcs rs[j].nd.pieces ≠ []) (hl : r.loc = rs[j].loc) : (rs.set j r).Pairwise fun r s => NKind.inn r ≠ [] → NKind.inn s ≠ [] → NKind.loc r ≠ NKind.loc s := by
 have ha := List.pairwise_iff_getElem.1 h
 refine List.pairwise_iff_getElem.2 (fun a b ha' hb' hab h1 h2 => ?_)
 rw [List.length_set] at ha' hb'
 rw [List.getElem_set] at h1 ⊢
 rw [List.getElem_set] at h2 ⊢
 by_cases ea : j = a
 ·subst ea
  rw [if_pos rfl] at h1 ⊢
  rw [if_neg (by omega)] at h2 ⊢
  show r.loc ≠ _
  rw [hl]
  exact ha j b ha' hb' hab (hi h1) h2
 ·rw [if_neg ea] at h1 ⊢
  by_cases eb : j = b
  ·subst eb
   rw [if_pos rfl] at h2 ⊢
   show _ ≠ r.loc
   rw [hl]
   exact ha a j ha' hb' hab h1 (hi h2)
  ·rw [if_neg eb] at h2 ⊢
   exact ha a b ha' hb' hab h1 h2
theorem TW.cell {w : World} {g : Nat} {ts : List NR} {lo hi : Nat} (h : TW w g ts lo hi) (i : Nat) (hi' : i < ts.length) (f : Nat) (hf : f < 9) (r : NR) (v : Value) (h1 : (ncells r)[f]? = some v) (h2 : ∀ q, q < 9 → q ≠ f → (ncells r)[q]? = (ncells ts[i])[q]?)
  (hin : r.nd.pieces = ts[i].nd.pieces) (hloc : r.loc = ts[i].loc) : TW (w.setCell ⟨g, i * 9 + f, none⟩ v) g (ts.set i r) lo hi := by
 have hout := h.out.set (i * 9 + f) v (by rw [NKind.cells_len]; show i * 9 + f < ts.length * 9; omega)
 have e : (NKind.cells ts).set (i * 9 + f) v = NKind.cells (ts.set i r) := ncs_set1 ts i hi' f hf r v h1 h2
 rw [e] at hout
 refine ⟨hout, h.glo, h.ghi, fun s hs => ?_, apart_set h.apart i hi' r (fun q => by rw [← hin]; exact q) hloc⟩
 have key : ∀ s ∈ ts, NKind.inn s = [] ∨ ∃ b, NKind.loc s = some ⟨b, 0, none⟩ ∧ lo ≤ b ∧ b < hi ∧ b ≠ g ∧ WCells (w.setCell ⟨g, i * 9 + f, none⟩ v) b (NKind.inn s) := fun s hs => by
  rcases h.rows s hs with q | ⟨b, e, q1, q2, q3, q4⟩
  ·exact .inl q
  ·exact .inr ⟨b, e, q1, q2, q3, q4.other _ _ q3⟩
 rcases List.mem_or_eq_of_mem_set hs with q | q
 ·exact key s q
 ·subst q
  have := key ts[i] (List.getElem_mem hi')
  show pcs s.nd.pieces = [] ∨ ∃ b, s.loc = _ ∧ _ ∧ _ ∧ _ ∧ WCells _ b (pcs s.nd.pieces)
  rw [hin, hloc]
  exact this
theorem TW.pieces {w w2 : World} {g : Nat} {ts : List NR} {lo hi : Nat} (h : TW w g ts lo hi) (i : Nat) (hi' : i < ts.length) (b : Nat) (hb : ts[i].loc = some ⟨b, 0, none⟩) (hne : ts[i].nd.pieces ≠ []) (r : NR) (hc : ncells r = ncells ts[i]) (hloc : r.loc = ts[i].loc)
  (hw : WCells w2 b (pcs r.nd.pieces)) (hg : w.grownBy w2 (some b)) : TW w2 g (ts.set i r) lo hi := by
 obtain ⟨b', e', p1, p2, p3, p4⟩ : ∃ b, ts[i].loc = some ⟨b, 0, none⟩ ∧ lo ≤ b ∧ b < hi ∧ b ≠ g ∧ WCells w b (pcs ts[i].nd.pieces) := by
  rcases h.rows ts[i] (List.getElem_mem hi') with q | q
  ·exact absurd q (pcs_ne hne)
  ·exact q
 have eb : b' = b := congrArg Addr.block (Option.some.inj (e'.symm.trans hb))
 subst eb
 have hcs : NKind.cells (ts.set i r) = NKind.cells ts := by
  show (ts.set i r).flatMap ncells = ts.flatMap ncells
  apply List.ext_getElem?
  intro n
  by_cases hn : n < ts.length * 9
  ·rw [flat_set ncells_len ts i hi' r n hn]
   split
   ·rename_i e
    rw [hc]
    have := ncs_get ts i hi' (n % 9) (Nat.mod_lt n (by decide))
    rw [← this]
    show (ncs ts)[_]? = (ncs ts)[_]?
    congr 1
    omega
   ·rfl
  ·rw [List.getElem?_eq_none (by have := flat_len ncells_len (ts.set i r); rw [List.length_set] at this; omega), List.getElem?_eq_none (by have := flat_len ncells_len ts; omega)]
 refine ⟨by rw [hcs]; exact h.out.apart hg (Ne.symm p3), h.glo, h.ghi, fun s hs => ?_, apart_set h.apart i hi' r (fun _ => pcs_ne hne) hloc⟩
 obtain ⟨j, hj, rfl⟩ := List.mem_iff_getElem.1 hs
 rw [List.length_set] at hj
 rw [List.getElem_set]
 by_cases e : i = j
 ·rw [if_pos e]
  exact .inr ⟨b', by show r.loc = _; rw [hloc, hb], p1, p2, p3, hw⟩
 ·rw [if_neg e]
  rcases h.rows ts[j] (List.getElem_mem hj) with q | ⟨c, e2, q1, q2, q3, q4⟩
  ·exact .inl q
  ·by_cases hq : NKind.inn ts[j] = []
   ·exact .inl hq
   ·have hap : ts[i].loc ≠ ts[j].loc := by
     have ha := List.pairwise_iff_getElem.1 h.apart
     by_cases hij : i < j
     ·exact ha i j hi' hj hij (pcs_ne hne) hq
     ·exact (ha j i hj hi' (by omega) hq (pcs_ne hne)).symm
    have hcb : c ≠ b' := fun q => hap (by rw [hb, ← q]; exact e2.symm)
    exact .inr ⟨c, e2, q1, q2, q3, q4.apart hg hcb⟩
end Go.Proofs.YtakhagkhngmpaaaGreat
/- TreH: . -/
namespace Go.Proofs.YtakhagkhngmpaaaGreat
set_option maxRecDepth 100000
open Go.RowKit
attribute [local go_sem ↓] Go.wp_at_zero Go.wp_at_succ
def THeld (w : World) (v : Value) (k : Nat) (T : TM) (lo hi : Nat) : Prop := ∃ (a : Option Addr) (cap : Nat) (rs : List NR), v = .agg #[.slice a rs.length cap, .int .i64 T.next] ∧ nds rs = T.nodes ∧ TR w a (markRs k rs) lo hi
theorem THeld.turned {w w' : World} {v : Value} {k : Nat} {T : TM} {lo hi lo' hi' : Nat} (h : THeld w v k T lo hi) (t : Turned w w' lo' hi') (hd : hi ≤ lo' ∨ hi' ≤ lo) : THeld w' v k T lo hi := by
 obtain ⟨a, cap, rs, e, hr, h1⟩ := h
 exact ⟨a, cap, rs, e, hr, h1.turned t hd⟩
theorem THeld.below {w w' : World} {v : Value} {k : Nat} {T : TM} {lo hi : Nat} (h : THeld w v k T lo hi) (hb : Below w.heap.size w w') : THeld w' v k T lo hi := by
 obtain ⟨a, cap, rs, e, hr, h1⟩ := h
 exact ⟨a, cap, rs, e, hr, h1.below hb⟩
end Go.Proofs.YtakhagkhngmpaaaGreat
/- GrwF: . -/
namespace Go.Proofs.YtakhagkhngmpaaaGreat
set_option maxRecDepth 100000
open Go.RowKit
def Pre9 (R : World → World → Prop) : Prop := (∀ w, R w w) ∧ ∀ {a b c : World}, R a b → R b c → R a c
section
variable {R : World → World → Prop} {P : Program} {ops : Array Oper} {Q : Exit → Act → World → Prop} {md : Region.Mode}
def wpR (R : World → World → Prop) (P : Program) (md : Region.Mode) (ops : Array Oper) (Q : Exit → Act → World → Prop) : Nat → Array Bool → Act → World → Prop
 | 0, l, a, w => Region.ready md ops l = [] ∧ ∀ x, R w x → Q .normal a x
 | n + 1, l, a, w => ∀ x, R w x → (Region.ready md ops l = [] → Q .normal a x) ∧
   ∀ i ∈ Region.ready md ops l, wpOp P ops Q i (fun a' y => R x y ∧ wpR R P md ops Q n (l.setIfInBounds i true) a' y) a x
theorem wpR_later (HR : Pre9 R) : ∀ (n : Nat) (l : Array Bool) (a : Act) (w y : World), R w y → wpR R P md ops Q n l a w → wpR R P md ops Q n l a y
 | 0, _, _, _, _, hy, h => ⟨h.1, fun x hx => h.2 x (HR.2 hy hx)⟩
 | _ + 1, _, _, _, _, hy, h => fun x hx => h x (HR.2 hy hx)
theorem wpAny_of_R (HR : Pre9 R) : ∀ (n : Nat) (l : Array Bool) (a : Act) (w : World), wpR R P md ops Q n l a w → wpAny P md ops Q n l a w
 | 0, _, _, w, h => ⟨h.1, h.2 w (HR.1 w)⟩
 | n + 1, _, _, w, h => ⟨(h w (HR.1 w)).1, fun i hi => wpOp_mono (fun a' y hh => wpAny_of_R HR n _ a' y hh.2) ((h w (HR.1 w)).2 i hi)⟩
def YR (R : World → World → Prop) (P : Program) (ops : Array Oper) (o : Oper) (v : Value) (a : Act) (w : World) : Prop :=
 (Region.wanted o (yielded ops a.tmps) = true ∧ ∀ x, R w x → o.quietAt P a (R x) x v) ∨ (Region.wanted o (yielded ops a.tmps) = false ∧ v = undef)
theorem YR.later (HR : Pre9 R) {o : Oper} {v : Value} {a : Act} {w y : World} (h : YR R P ops o v a w) (hy : R w y) : YR R P ops o v a y :=
 h.imp (fun q => ⟨q.1, fun x hx => q.2 x (HR.2 hy hx)⟩) id
theorem YR.same {o : Oper} {v : Value} {a b : Act} {w : World} (h : YR R P ops o v a w) (he : execOp b.eval o = execOp a.eval o) (hw : Region.wanted o (yielded ops b.tmps) = Region.wanted o (yielded ops a.tmps)) : YR R P ops o v b w := by
 unfold YR Oper.quietAt at *
 rw [he, hw]
 exact h
theorem YR.op (HR : Pre9 R) {i : Nat} {o : Oper} {v : Value} {a : Act} {w x : World} {K : Act → World → Prop} (hi : ops[i]? = some o) (h : YR R P ops o v a w) (hx : R w x) (hk : ∀ y, R x y → K (a.put o.dst v) y) : wpOp P ops Q i K a x := by
 unfold wpOp
 rw [hi]
 dsimp only
 rcases h with ⟨hw, hq⟩ | ⟨hw, hv⟩
 ·rw [if_pos hw]
  refine Or.inl ?_
  have q := hq x hx
  unfold Oper.quietAt at q
  unfold Oper.wp
  revert q
  cases (execOp a.eval o).run P x with
  | halt _ _ => exact False.elim
  | ok r y =>
   cases r with
   | value u => rintro ⟨rfl, rfl⟩; exact hk _ (HR.1 _)
   | skip => rintro ⟨rfl, rfl⟩; exact hk _ (HR.1 _)
   | enter f args => rintro ⟨rfl, hc⟩; exact hc.mono (by rintro _ z ⟨rfl, hz⟩; exact hk _ hz)
   | _ => exact False.elim
 ·rw [if_neg (by rw [hw]; exact Bool.false_ne_true), ← hv]
  exact hk _ (HR.1 _)
theorem op_besideR {j : Nat} {oi oj : Oper} {v : Value} {w : World} (hj : ops[j]? = some oj) (hap : oi.apart ops oj = true) (hsi : ∀ cs b, oi.op ≠ .select cs b) (hsj : ∀ cs b, oj.op ≠ .select cs b)
  (hQ : ∀ c a w, Q (.panic c) (a.put oi.dst v) w → Q (.panic c) a w) {K : Act → World → Prop} {a : Act} {x : World} (hy : YR R P ops oi v a w) (h : wpOp P ops Q j K (a.put oi.dst v) x) :
  wpOp P ops Q j (fun a' y => YR R P ops oi v a' w ∧ K (a'.put oi.dst v) y) a x := by
 have h3 := (Oper.apart_spec hap).2.2
 refine wpOp_mono ?_ (op_frame hj (wpOp_putIf (S := fun _ => False) hj hap hsi hsj hQ (hy.imp (fun q => ⟨q.1, fun _ hf => hf.elim⟩) id) h))
 rintro b y ⟨⟨u, rfl | ⟨f, rfl⟩⟩, -, hk⟩
 ·exact ⟨hy.same (execOp_put oi hsi a oj.dst u h3) (wanted_put oi a oj.dst u h3), hk⟩
 ·have q : YR R P ops oi v { a with defers := f :: a.defers } w := hy.same rfl rfl
  exact ⟨q.same (execOp_put oi hsi _ oj.dst u h3) (wanted_put oi _ oj.dst u h3), hk⟩
theorem wpR_first (HR : Pre9 R) {i : Nat} {oi : Oper} {v : Value} (hi : ops[i]? = some oi) (hsel : ∀ (j : Nat) (o : Oper) cs b, ops[j]? = some o → o.op ≠ .select cs b) (hQ : ∀ c a w, Q (.panic c) (a.put oi.dst v) w → Q (.panic c) a w) :
  ∀ (n : Nat) (l : Array Bool) (a : Act) (w : World), (∀ j oj, ops[j]? = some oj → j ≠ i → l.getD j true = false → (∀ e ∈ oj.after, Region.binds md e = true → e.on ≠ i) → oi.apart ops oj = true) →
   i ∈ Region.ready md ops l → YR R P ops oi v a w → wpR R P md ops Q n (l.setIfInBounds i true) (a.put oi.dst v) w → wpR R P md ops Q (n + 1) l a w := by
 intro n
 induction n with
 | zero =>
  intro l a w _ hr hy H x hx
  refine ⟨fun h => (by rw [h] at hr; cases hr), fun j hj => ?_⟩
  by_cases hji : j = i
  ·subst hji
   exact hy.op HR hi hx fun y hxy => ⟨hxy, wpR_later HR 0 _ _ _ _ (HR.2 hx hxy) H⟩
  ·have q := ready_mono hj hji
   rw [H.1] at q
   cases q
 | succ n ih =>
  intro l a w hfree hr hy H x hx
  refine ⟨fun h => (by rw [h] at hr; cases hr), fun j hj => ?_⟩
  by_cases hji : j = i
  ·subst hji
   exact hy.op HR hi hx fun y hxy => ⟨hxy, wpR_later HR (n + 1) _ _ _ _ (HR.2 hx hxy) H⟩
  ·obtain ⟨hun, oj, hoj, -⟩ := mem_ready.1 hj
   have q := op_besideR hoj (hfree j oj hoj hji hun (ready_free hr hj hoj)) (fun cs b => hsel i oi cs b hi) (fun cs b => hsel j oj cs b hoj) hQ hy ((H x hx).2 j (ready_mono hj hji))
   refine wpOp_mono (fun b y hb => ⟨hb.2.1, ih (l.setIfInBounds j true) b y (fun k ok hk hki hku hno => hfree k ok hk hki ?_ hno) (ready_mono hr (Ne.symm hji)) (hb.1.later HR (HR.2 hx hb.2.1)) ?_⟩) q
   ·by_cases hjk : j = k
    ·subst hjk; exact hun
    ·rw [getD_set_ne true hjk] at hku; exact hku
   ·rw [Array.setIfInBounds_comm _ _ hji]
    exact hb.2.2
theorem wpR_val (HR : Pre9 R) {L r : List Oper} {i : Nat} {oi : Oper} {v : Value} {n : Nat} {l : Array Bool} {a : Act} {w : World} (hi : L.drop i = oi :: r) (hs : Region.noSelect L.toArray = true) (hf : Region.free md L.toArray l i = true) (hr : (Region.ready md L.toArray l).contains i = true)
  (hQ : ∀ c a w, Q (.panic c) (a.put oi.dst v) w → Q (.panic c) a w) (hw : Region.wanted oi (yielded L.toArray a.tmps) = true) (hy : ∀ x, R w x → (execOp a.eval oi).run P x = .ok (.value v) x)
  (h : wpR R P md L.toArray Q n (l.setIfInBounds i true) (a.put oi.dst v) w) : wpR R P md L.toArray Q (n + 1) l a w :=
 wpR_first HR (at_drop hi) (Region.noSelect_spec hs) hQ n l a w (Region.free_spec (at_drop hi) hf) (by simpa using hr) (Or.inl ⟨hw, fun x hx => by unfold Oper.quietAt; rw [hy x hx]; exact ⟨rfl, rfl⟩⟩) h
theorem wpR_call (HR : Pre9 R) {L r : List Oper} {i : Nat} {oi : Oper} {v : Value} {f : FuncId} {args : Array Value} {n : Nat} {l : Array Bool} {a : Act} {w : World} (hi : L.drop i = oi :: r) (hs : Region.noSelect L.toArray = true) (hf : Region.free md L.toArray l i = true) (hr : (Region.ready md L.toArray l).contains i = true)
  (hQ : ∀ c a w, Q (.panic c) (a.put oi.dst v) w → Q (.panic c) a w) (hw : Region.wanted oi (yielded L.toArray a.tmps) = true) (hy : ∀ x, R w x → (execOp a.eval oi).run P x = .ok (.enter f args) x)
  (hc : ∀ x, R w x → Calls P f args x fun e y => e = .returned v ∧ R x y)
  (h : wpR R P md L.toArray Q n (l.setIfInBounds i true) (a.put oi.dst v) w) : wpR R P md L.toArray Q (n + 1) l a w :=
 wpR_first HR (at_drop hi) (Region.noSelect_spec hs) hQ n l a w (Region.free_spec (at_drop hi) hf) (by simpa using hr) (Or.inl ⟨hw, fun x hx => by unfold Oper.quietAt; rw [hy x hx]; exact ⟨rfl, hc x hx⟩⟩) h
theorem wpR_onecall {L r : List Oper} {i : Nat} {oi : Oper} {f : FuncId} {args : Array Value} {n : Nat} {l : Array Bool} {a : Act} {w : World} (hr : Region.ready md L.toArray l = [i]) (hi : L.drop i = oi :: r) (hw : Region.wanted oi (yielded L.toArray a.tmps) = true)
  (hy : ∀ x, R w x → (execOp a.eval oi).run P x = .ok (.enter f args) x)
  (h : ∀ x, R w x → Calls P f args x fun e y => ∃ v, e = .returned v ∧ R x y ∧ wpR R P md L.toArray Q n (l.setIfInBounds i true) (a.put oi.dst v) y) : wpR R P md L.toArray Q (n + 1) l a w := by
 intro x hx
 rw [hr]
 refine ⟨fun h => (by cases h), fun j hj => ?_⟩
 rw [List.mem_singleton] at hj
 subst hj
 unfold wpOp
 rw [at_drop hi]
 dsimp only
 rw [if_pos hw]
 refine Or.inl ?_
 unfold Oper.wp
 rw [hy x hx]
 refine (h x hx).mono ?_
 rintro e y ⟨v, rfl, hq⟩
 exact hq
theorem wpR_done {l : Array Bool} {a : Act} {w : World} (hr : Region.ready md ops l = []) (h : ∀ x, R w x → Q .normal a x) : ∀ n, wpR R P md ops Q n l a w
 | 0 => ⟨hr, h⟩
 | _ + 1 => fun x hx => ⟨fun _ => h x hx, by rw [hr]; simp⟩
theorem wp_region_R (R : World → World → Prop) (HR : Pre9 R) {id : Nat} {a : Act} {w : World} (hm : P.follows .mixedOrders = true) (h : wpR R P .any ops Q ops.size (Array.replicate ops.size false) a w.drew) : (Code.region id ops true).wp P Q a w :=
 wp_region_any hm (wpAny_of_R HR _ _ _ _ h)
end
end Go.Proofs.YtakhagkhngmpaaaGreat
/- LkP: . -/
namespace Go.Proofs.YtakhagkhngmpaaaGreat
set_option maxRecDepth 100000
def fid (ns : List NM) (id : Int) : Option Nat := ns.findIdx? (fun n => n.id == id)
def fnm (ns : List NM) (p : Int) (s : ByteArray) : Option Nat := ns.findIdx? (fun n => n.parent == p && decide (n.name = s))
theorem find_take {α : Type} (P : α → Bool) (xs : List α) (k : Nat) (h : k < xs.length) : (xs.take (k + 1)).findIdx? P = match (xs.take k).findIdx? P with
  | some i => some i
  | none => if P xs[k] = true then some k else none := by
 rw [List.take_succ_eq_append_getElem h, List.findIdx?_append]
 cases hf : (xs.take k).findIdx? P with
 | some i => simp
 | none =>
  simp only [List.findIdx?_cons, List.findIdx?_nil, Option.none_or]
  have : (xs.take k).length = k := by simp; omega
  by_cases hp : P xs[k] = true
  ·simp [hp, this]
  ·simp [hp]
theorem fid_lt {ns : List NM} {id : Int} {i : Nat} (h : fid ns id = some i) : ∃ hi : i < ns.length, ns[i].id = id := by
 obtain ⟨hi, h1, _⟩ := List.findIdx?_eq_some_iff_getElem.1 h
 exact ⟨hi, by simpa using h1⟩
theorem fid_none {ns : List NM} {id : Int} (h : fid ns id = none) : ∀ n ∈ ns, n.id ≠ id := fun n hn => by simpa using List.findIdx?_eq_none_iff.1 h n hn
theorem fid_of {ns : List NM} {i : Nat} (hi : i < ns.length) (h : ∀ j, j < i → ∀ hj : j < ns.length, ns[j].id ≠ ns[i].id) : fid ns ns[i].id = some i :=
 List.findIdx?_eq_some_iff_getElem.2 ⟨hi, by simp, fun j hj => by simpa using h j hj (by omega)⟩
theorem fnm_lt {ns : List NM} {p : Int} {s : ByteArray} {i : Nat} (h : fnm ns p s = some i) : ∃ hi : i < ns.length, ns[i].parent = p ∧ ns[i].name = s := by
 obtain ⟨hi, h1, _⟩ := List.findIdx?_eq_some_iff_getElem.1 h
 exact ⟨hi, by simpa using h1⟩
theorem fnm_none {ns : List NM} {p : Int} {s : ByteArray} (h : fnm ns p s = none) : ∀ n ∈ ns, n.parent = p → n.name ≠ s := fun n hn => by simpa using List.findIdx?_eq_none_iff.1 h n hn
theorem fnm_first {ns : List NM} {p : Int} {s : ByteArray} {i : Nat} (h : fnm ns p s = some i) : ∀ j, j < i → ∀ hj : j < ns.length, ns[j].parent = p → ns[j].name ≠ s := by
 obtain ⟨hi, h1, h2⟩ := List.findIdx?_eq_some_iff_getElem.1 h
 exact fun j hj hjl => by simpa using h2 j hj
theorem at_fid (ns : List NM) (id : Int) : atI ns id = match fid ns id with
  | some i => (i : Int)
  | none => -1 := rfl
inductive Ups (ns : List NM) : Nat → Nat → Prop
 | root : Ups ns 0 0
 | step {i k d : Nat} : i < ns.length → i ≠ 0 → fid ns (ns.getD i default).parent = some k → Ups ns k d → Ups ns i (d + 1)
def Asc (ns : List NM) : Prop := (∀ i (hi : i < ns.length), 0 < i → (ns.getD (i - 1) default).id < ns[i].id) ∧ 0 < ns.length ∧ (ns.getD 0 default).id = 1 ∧ (ns.getD 0 default).parent = 0
theorem Asc.lt {ns : List NM} (h : Asc ns) : ∀ j (hj : j < ns.length) i, i < j → (ns.getD i default).id < ns[j].id := by
 intro j
 induction j with
 | zero => intro _ i hi; omega
 | succ j ih =>
  intro hj i hi
  have h1 := h.1 (j + 1) hj (by omega)
  simp only [Nat.add_sub_cancel] at h1
  rcases Nat.lt_or_ge i j with hl | hg
  ·have h2 := ih (by omega) i hl
   have e : (ns.getD j default) = ns[j] := by simp [List.getD, (by omega : j < ns.length)]
   rw [e] at h1
   omega
  ·obtain rfl : i = j := by omega
   exact h1
theorem getD_in {ns : List NM} {i : Nat} (hi : i < ns.length) : ns.getD i default = ns[i] := by simp [List.getD, hi]
theorem Asc.fid {ns : List NM} (h : Asc ns) {i : Nat} (hi : i < ns.length) : fid ns ns[i].id = some i :=
 fid_of hi fun j hj hjl => by have := h.lt i hi j hj; rw [getD_in hjl] at this; omega
theorem Asc.pos {ns : List NM} (h : Asc ns) {i : Nat} (hi : i < ns.length) : 1 ≤ ns[i].id := by
 rcases Nat.eq_zero_or_pos i with rfl | hp
 ·have := h.2.2.1
  rw [getD_in hi] at this
  omega
 ·have := h.lt i hi 0 hp
  rw [h.2.2.1] at this
  omega
theorem Asc.zero {ns : List NM} (h : Asc ns) : Go.Proofs.YtakhagkhngmpaaaGreat.fid ns 0 = none := by
 cases hf : Go.Proofs.YtakhagkhngmpaaaGreat.fid ns 0 with
 | none => rfl
 | some i =>
  obtain ⟨hi, e⟩ := fid_lt hf
  have := h.pos hi
  omega
theorem Asc.one {ns : List NM} (h : Asc ns) : Go.Proofs.YtakhagkhngmpaaaGreat.fid ns 1 = some 0 := by
 have := h.fid h.2.1
 rw [← getD_in h.2.1, h.2.2.1] at this
 exact this
theorem climbs_ups {ns : List NM} (h : Asc ns) : ∀ (f : Nat) (id : Int) (i : Nat), climbs ns f id = true → Go.Proofs.YtakhagkhngmpaaaGreat.fid ns id = some i → i ≠ 0 → ∃ d, d ≤ f ∧ Ups ns i d := by
 intro f
 induction f with
 | zero => intro id i hc; simp [climbs] at hc
 | succ f ih =>
  intro id i hc hi h0
  unfold climbs at hc
  unfold Go.Proofs.YtakhagkhngmpaaaGreat.fid at hi
  rw [hi] at hc
  dsimp only at hc
  obtain ⟨hil, _⟩ := fid_lt (ns := ns) hi
  by_cases h1 : (ns.getD i default).parent = 1
  ·exact ⟨1, by omega, Ups.step hil h0 (by rw [h1]; exact h.one) Ups.root⟩
  ·rw [if_neg h1] at hc
   cases hk : Go.Proofs.YtakhagkhngmpaaaGreat.fid ns (ns.getD i default).parent with
   | none =>
    cases f with
    | zero => simp [climbs] at hc
    | succ f =>
     unfold climbs at hc
     unfold Go.Proofs.YtakhagkhngmpaaaGreat.fid at hk
     rw [hk] at hc
     cases hc
   | some k =>
    by_cases hk0 : k = 0
    ·subst hk0
     have := fid_lt hk
     obtain ⟨hl, e⟩ := this
     rw [← getD_in hl, h.2.2.1] at e
     exact absurd e.symm h1
    ·obtain ⟨d, hd, hu⟩ := ih _ k hc hk hk0
     exact ⟨d + 1, by omega, Ups.step hil h0 hk hu⟩
theorem ups_climbs {ns : List NM} (h : Asc ns) : ∀ (f i d : Nat), Ups ns i d → i ≠ 0 → d ≤ f → climbs ns f (ns.getD i default).id = true := by
 intro f
 induction f with
 | zero =>
  intro i d hu h0 hd
  cases hu with
  | root => exact absurd rfl h0
  | step => omega
 | succ f ih =>
  intro i d hu h0 hd
  cases hu with
  | root => exact absurd rfl h0
  | @step _ k d' hil _ hk hu' =>
   unfold climbs
   have e := h.fid hil
   rw [← getD_in hil] at e
   unfold Go.Proofs.YtakhagkhngmpaaaGreat.fid at e
   rw [e]
   dsimp only
   split
   ·rfl
   ·rename_i hne
    obtain ⟨hkl, ek⟩ := fid_lt hk
    rw [← ek, ← getD_in hkl]
    refine ih k d' hu' (fun e0 => hne ?_) (by omega)
    subst e0
    rw [← ek, ← getD_in hkl]
    exact h.2.2.1
theorem Ups.lt {ns : List NM} (h : Asc ns) {i d : Nat} (hu : Ups ns i d) : i < ns.length := by
 cases hu with
 | root => exact h.2.1
 | step hl => exact hl
theorem Ups.det {ns : List NM} {i d e : Nat} (h : Ups ns i d) (h' : Ups ns i e) : d = e := by
 induction h generalizing e with
 | root =>
  cases h' with
  | root => rfl
  | step _ h0 => exact absurd rfl h0
 | step _ h0 hk _ ih =>
  cases h' with
  | root => exact absurd rfl h0
  | step _ _ hk' hu' =>
   rw [hk] at hk'
   cases hk'
   rw [ih hu']
end Go.Proofs.YtakhagkhngmpaaaGreat
/- PaI: . -/
namespace Go.Proofs.YtakhagkhngmpaaaGreat
set_option maxRecDepth 100000
open Go.RowKit
open Go.PlainAid (bt)
attribute [local go_sem ↓] Go.wp_at_zero Go.wp_at_succ
theorem get_bt9 (s : ByteArray) (j : Nat) (h : j < s.size) : bt s j = ((s.get! j).toNat : Int) := by
 unfold bt
 rw [dif_pos h]
 simp [ByteArray.get!, getElem!_pos, h]
 rfl
theorem decode_far (s : ByteArray) (pos : Nat) (h : pos < s.size) (ha : 128 ≤ bt s pos) : pos + (Utf8.decode s pos).2 ≤ s.size ∧ (Utf8.decode s pos).2 ≤ 4 ∧ ∀ d, d < (Utf8.decode s pos).2 → 128 ≤ bt s (pos + d) := by
 have hg := fun d (q : pos + d < s.size) => get_bt9 s (pos + d) q
 have g0 := hg 0 (by omega)
 simp only [Nat.add_zero] at g0
 have g1 := hg 1
 have g2 := hg 2
 have g3 := hg 3
 clear hg
 have hn : ¬ (s.get! (pos + 0)).toNat < 128 := by simp only [Nat.add_zero]; omega
 simp only [Utf8.decode, hn, if_false]
 have hone : pos + 1 ≤ s.size ∧ 1 ≤ 4 ∧ ∀ d, d < 1 → 128 ≤ bt s (pos + d) := ⟨by omega, by omega, fun d hd => by
  have : d = 0 := by omega
  subst this; exact ha⟩
 split
 ·rename_i q
  simp only [Bool.and_eq_true, decide_eq_true_eq, beq_iff_eq] at q
  split
  ·refine ⟨by simp only; omega, by simp only; omega, fun d hd => ?_⟩
   have h1 := g1 q.2.1
   rcases (show d = 0 ∨ d = 1 from by simp only at hd; omega) with rfl | rfl
   ·exact ha
   ·rw [h1]; omega
  ·exact hone
 ·split
  ·rename_i q
   simp only [Bool.and_eq_true, decide_eq_true_eq, beq_iff_eq] at q
   split
   ·refine ⟨by simp only; omega, by simp only; omega, fun d hd => ?_⟩
    have h1 := g1 q.1.2.1
    have h2 := g2 q.2.1
    rcases (show d = 0 ∨ d = 1 ∨ d = 2 from by simp only at hd; omega) with rfl | rfl | rfl
    ·exact ha
    ·rw [h1]; omega
    ·rw [h2]; omega
   ·exact hone
  ·split
   ·rename_i q
    simp only [Bool.and_eq_true, decide_eq_true_eq, beq_iff_eq] at q
    split
    ·refine ⟨by simp only; omega, by simp only; omega, fun d hd => ?_⟩
     have h1 := g1 q.1.1.2.1
     have h2 := g2 q.1.2.1
     have h3 := g3 q.2.1
     rcases (show d = 0 ∨ d = 1 ∨ d = 2 ∨ d = 3 from by simp only at hd; omega) with rfl | rfl | rfl | rfl
     ·exact ha
     ·rw [h1]; omega
     ·rw [h2]; omega
     ·rw [h3]; omega
    ·exact hone
   ·exact hone
theorem rune_low (s : ByteArray) (pos : Nat) (h : pos < s.size) (ha : bt s pos < 128) : ((Utf8.decode s pos).1 : Int) = bt s pos ∧ (Utf8.decode s pos).2 = 1 := by
 have e : bt s pos = ((s[pos]'h).toNat : Int) := by unfold bt; rw [dif_pos h]
 rw [decode_ascii s pos h (by omega), e]
 exact ⟨rfl, rfl⟩
theorem rune_high (s : ByteArray) (pos : Nat) (h : pos < s.size) (ha : 128 ≤ bt s pos) : (128 : Int) ≤ ((Utf8.decode s pos).1 : Int) ∧ 1 ≤ (Utf8.decode s pos).2 := by
 have e : bt s pos = ((s[pos]'h).toNat : Int) := by unfold bt; rw [dif_pos h]
 have := decode_high s pos h (by omega)
 omega
theorem implNameRune (r : Int) (b : Bool) (hb : b = true ↔ nameN r) (w : World) : Calls Tryz.prog 145 #[.int .i32 r] w fun e w' => e = .returned (.bool b) ∧ w' = w := by
 have HB := Shut.mk hb
 clear hb
 unfold nameN at HB
 by_cases c1 : 97 ≤ r
 ·by_cases c2 : r ≤ 122
  ·have hb : b = true := HB.out.2 (by omega)
   subst hb
   go_enter Tryz.func145, Tryz.ntmps145
   go_wp2_with fail
   go_ret
   exact ⟨rfl, rfl⟩
  ·have c3 : 48 ≤ r := by omega
   have c4 : ¬ r ≤ 57 := by omega
   have hb : b = false := by cases b with | false => rfl | true => exact absurd (HB.out.1 rfl) (by omega)
   subst hb
   go_enter Tryz.func145, Tryz.ntmps145
   go_wp2_with fail
   go_ret
   exact ⟨rfl, rfl⟩
 ·by_cases c3 : 48 ≤ r
  ·by_cases c4 : r ≤ 57
   ·have hb : b = true := HB.out.2 (by omega)
    subst hb
    go_enter Tryz.func145, Tryz.ntmps145
    go_wp2_with fail
    go_ret
    exact ⟨rfl, rfl⟩
   ·have hb : b = false := by cases b with | false => rfl | true => exact absurd (HB.out.1 rfl) (by omega)
    subst hb
    go_enter Tryz.func145, Tryz.ntmps145
    go_wp2_with fail
    go_ret
    exact ⟨rfl, rfl⟩
  ·have hb : b = false := by cases b with | false => rfl | true => exact absurd (HB.out.1 rfl) (by omega)
   subst hb
   go_enter Tryz.func145, Tryz.ntmps145
   go_wp2_with fail
   go_ret
   exact ⟨rfl, rfl⟩
theorem iter_below (w : World) (s : ByteArray) (pos : Nat) : Below w.heap.size w (w.iter s pos) := (Below.refl _ _).alloc (Nat.le_refl _) _
set_option maxHeartbeats 1000000 in
theorem implNameOk (s : ByteArray) (w : World) (hs : s.size ≤ 1048576) : Calls Tryz.prog 119 #[.string s] w fun e w' => e = .returned (.bool (nameB s)) ∧ Below w.heap.size w w' := by
 obtain ⟨r, hre⟩ : ∃ r, r = nameB s := ⟨_, rfl⟩
 have HRE := Shut.mk hre
 rw [← hre]
 clear hre
 have hnot (q : ¬ (1 ≤ s.size ∧ s.size ≤ 8)) : r = false := by
  rw [HRE.out]
  cases e : nameB s with
  | false => rfl
  | true => exact absurd ((nameB_iff s).1 e).2 q
 by_cases h1 : s.size < 1
 ·have hr := hnot (by omega)
  subst hr
  have h1' : (s.size : Int) < 1 := by omega
  go_enter Tryz.func119, Tryz.ntmps119
  go_wp2_with fail
  go_ret
  exact ⟨rfl, Below.refl _ _⟩
 have h1' : ¬ (s.size : Int) < 1 := by omega
 by_cases h8 : 8 < s.size
 ·have hr := hnot (by omega)
  subst hr
  have h8' : (8 : Int) < (s.size : Int) := by omega
  go_enter Tryz.func119, Tryz.ntmps119
  go_wp2_with fail
  go_ret
  exact ⟨rfl, Below.refl _ _⟩
 have h8' : ¬ (8 : Int) < (s.size : Int) := by omega
 clear hnot
 go_enter Tryz.func119, Tryz.ntmps119
 go_wp2_with fail
 go_loopw [2] (fun v wr => ∃ (pos : Nat), v = .bool false ∧ wr = w.iter s pos ∧ pos ≤ s.size ∧ Shut (∀ j, j < pos → nameN (bt s j))) (fun _ wr => s.size - wr.iterPos w.heap.size)
 case atStart => exact ⟨0, rfl, rfl, Nat.zero_le _, ⟨fun j hj => by omega⟩⟩
 case round =>
  obtain ⟨pos, rfl, rfl, hp, hall⟩ := hrel
  by_cases hlt : pos < s.size
  ·have hnx : ∀ ty, (Instr.next (.pointer (some ⟨w.heap.size, 0, none⟩)) true ty).run Tryz.prog (w.iter s pos) = _ := fun ty => run_next_any w s pos ty hlt
   have hlow := rune_low s pos hlt
   have hhigh := rune_high s pos hlt
   generalize Utf8.decode s pos = D at *
   obtain ⟨rn, wd⟩ := D
   simp only at hlow hhigh hnx
   by_cases hn : nameN (bt s pos)
   ·have hl : bt s pos < 128 := by unfold nameN at hn; omega
    obtain ⟨e1, rfl⟩ := hlow hl
    have HN := Shut.mk (fun W => implNameRune (rn : Int) true (by rw [e1]; exact ⟨fun _ => hn, fun _ => rfl⟩) W)
    have HA : Shut (∀ j, j < pos + 1 → nameN (bt s j)) := ⟨fun j hj => by
     by_cases e : j = pos
     ·subst e; exact hn
     ·exact hall.out j (by omega)⟩
    clear hn hlow hhigh e1 hl hall
    go_wp2_with fail
    refine (HN.out _).mono ?_
    rintro e w1 ⟨rfl, hw⟩
    subst hw
    go_wp2_with fail
    go_roundw
    case rel => exact ⟨pos + 1, rfl, rfl, by omega, HA⟩
    case measure => simp; omega
   ·have hr : r = false := HRE.out.trans (nameB_no hlt hn)
    have HN := Shut.mk (fun W => implNameRune (rn : Int) false (by
     refine ⟨fun q => (Bool.noConfusion q), fun q => ?_⟩
     exfalso
     by_cases hl : bt s pos < 128
     ·rw [(hlow hl).1] at q; exact hn q
     ·have := (hhigh (by omega)).1
      unfold nameN at q
      omega) W)
    subst hr
    clear hn hlow hhigh hall
    go_wp2_with fail
    refine (HN.out _).mono ?_
    rintro e w1 ⟨rfl, hw⟩
    subst hw
    go_wp2_with fail
    go_ret
    exact ⟨rfl, iter_below _ _ _⟩
  ·have hnx : ∀ ty, (Instr.next (.pointer (some ⟨w.heap.size, 0, none⟩)) true ty).run Tryz.prog (w.iter s pos) = _ := fun ty => run_next_end w s pos ty hlt
   have hr : r = true := HRE.out.trans ((nameB_iff s).2 ⟨fun j hj => hall.out j (by omega), by omega, by omega⟩)
   subst hr
   go_wp2_with fail
   go_ret
   exact ⟨rfl, iter_below _ _ _⟩
structure BwRel (p : ByteArray) (i bg : Nat) (done : List ByteArray) : Prop where
 le : bg ≤ i
 clean : ∀ j, bg ≤ j → j < i → bt p j ≠ 47
 sofar : (segs (lb p)).map ba = done ++ (segs ((lb p).drop bg)).map ba
theorem BwRel.start {p : ByteArray} : BwRel p 0 0 [] := ⟨Nat.le_refl _, fun j h1 h2 => by omega, rfl⟩
theorem BwRel.step {p : ByteArray} {i bg wd : Nat} {done : List ByteArray} (h : BwRel p i bg done) (hc : ∀ d, d < wd → bt p (i + d) ≠ 47) : BwRel p (i + wd) bg done :=
 ⟨by have := h.le; omega, fun j h1 h2 => by
  by_cases e : j < i
  ·exact h.clean j h1 e
  ·have := hc (j - i) (by omega)
   rwa [show i + (j - i) = j from by omega] at this, h.sofar⟩
theorem BwRel.cut {p : ByteArray} {i bg : Nat} {done : List ByteArray} (h : BwRel p i bg done) (hi : i < p.size) (hc : bt p i = 47) : BwRel p (i + 1) (i + 1) (done ++ [p.extract bg i]) := by
 refine ⟨Nat.le_refl _, fun j h1 h2 => by omega, ?_⟩
 have hl : (lb p).length = p.size := rfl
 have e : (lb p).drop bg = ((lb p).drop bg).take (i - bg) ++ 47 :: (lb p).drop (i + 1) := by
  have h1 : ((lb p).drop bg).drop (i - bg) = 47 :: (lb p).drop (i + 1) := by
   rw [List.drop_drop, show bg + (i - bg) = i from by have := h.le; omega, List.drop_eq_getElem_cons (by omega)]
   congr 1
   have := bt_at hi
   rw [hc] at this
   have h2 : ((lb p)[i]'(by omega)).toNat = 47 := by omega
   exact UInt8.toNat_inj.1 h2
  rw [← h1, List.take_append_drop]
 rw [h.sofar, e, segs_cut _ _ (clean_list (by omega) h.clean), List.map_cons, List.append_assoc]
 congr 1
 rw [← ext_list, ba_lb]; rfl
theorem BwRel.fin {p : ByteArray} {i bg : Nat} {done : List ByteArray} (h : BwRel p i bg done) (hi : i = p.size) : (segs (lb p)).map ba = done ++ [p.extract bg p.size] := by
 have hl : (lb p).length = p.size := rfl
 subst hi
 have e : (lb p).drop bg = ((lb p).drop bg).take (p.size - bg) := by rw [List.take_of_length_le (by rw [List.length_drop]; omega)]
 rw [h.sofar, e, segs_none _ (clean_list (by omega) h.clean), List.map_cons, List.map_nil, ← ext_list, ba_lb]
theorem slice_from (s : ByteArray) (a : Nat) (h : a ≤ s.size) (w : World) : (Instr.slice 9 (.string s) (some (.int .i64 a)) none none).run Tryz.prog w = .ok (.string (s.extract a s.size)) w := by
 rw [run_slice_string_from_if w 9 s .i64 a Tryz.underlying9, if_pos ⟨by omega, by omega⟩]
 rfl
theorem own_iter9 {w : World} {B e size n : Nat} {v : Value} {xs : List Value} {k : Nat} {s : ByteArray} {pos : Nat} (h : w.ownsRow B e size v n xs) (hk : w.heap[k]? = some (.stringIter s pos)) (pos' : Nat) : (w.iterAt k s pos').ownsRow B e size v n xs := by
 refine ⟨h.1, h.2.imp id fun ⟨g, cap, cur, hv, hb, hg, rest⟩ => ⟨g, cap, cur, hv, hb, ?_, rest⟩⟩
 rw [Lib.iterAt_other _ _ _ _ _ (fun e => by subst e; rw [hk] at hg; cases hg)]
 exact hg
theorem own_ne9 {w : World} {B e size n : Nat} {v : Value} {xs : List Value} {k : Nat} {s : ByteArray} {pos : Nat} (h : w.ownsRow B e size v n xs) (hk : w.heap[k]? = some (.stringIter s pos)) : some k ≠ v.ownBlock := by
 rcases h.2 with ⟨rfl, _⟩ | ⟨g, cap, cur, rfl, hb, hg, rest⟩
 ·exact fun e => nomatch e
 ·intro e
  cases e
  rw [hk] at hg
  cases hg
set_option maxHeartbeats 2000000 in
theorem implBetween (p : ByteArray) (w : World) (hs : p.size ≤ 1048576) : Calls Tryz.prog 121 #[.string p] w fun e w' => ∃ v, e = .returned v ∧ w'.ownsRow w.heap.size 9 1 v (segs (lb p)).length (tv ((segs (lb p)).map ba)) ∧ Below w.heap.size w w' := by
 obtain ⟨i0, hi, hz0, hz1, hz2⟩ := info_parts infoTextG
 have hb := Go.PlainAid.get_bt p
 go_enter Tryz.func121, Tryz.ntmps121
 go_wp2_with fail
 go_loopw [3, 4] (fun v bg wr => ∃ (pos g : Nat) (done : List ByteArray) (vv : Value), vv = v ∧ bg = .int .i64 g ∧ wr.heap[w.heap.size]? = some (.stringIter p pos) ∧ pos ≤ p.size ∧ g ≤ pos ∧ done.length ≤ pos ∧ Shut (BwRel p pos g done) ∧ Shut (wr.ownsRow w.heap.size 9 1 vv done.length (tv done)) ∧ Shut (Below w.heap.size w wr)) (fun _ _ wr => p.size - wr.iterPos w.heap.size)
 case atStart => exact ⟨0, 0, [], _, rfl, rfl, World.iter_heap _ _ _, Nat.zero_le _, Nat.le_refl _, by simp, ⟨BwRel.start⟩, ⟨⟨rfl, .inl ⟨rfl, rfl⟩⟩⟩, ⟨iter_below _ _ _⟩⟩
 case round =>
  obtain ⟨pos, g, done, v, rfl, rfl, hit, hp, hg, hd, hrl, hown, hbl⟩ := hrel
  have hB := hbl.out.size
  have hB1 : w.heap.size < wr.heap.size := (Array.getElem?_eq_some_iff.1 hit).1
  by_cases hlt : pos < p.size
  ·have hlow := rune_low p pos hlt
   have hhigh := rune_high p pos hlt
   have hfar := decode_far p pos hlt
   obtain ⟨rn, wd, hD⟩ : ∃ rn wd, Utf8.decode p pos = (rn, wd) := ⟨_, _, rfl⟩
   have hnx : ∀ ty, (Instr.next (.pointer (some ⟨w.heap.size, 0, none⟩)) true ty).run Tryz.prog wr = _ := fun ty => Lib.run_next_any_at wr w.heap.size p pos ty hit hlt
   rw [hD] at hlow hhigh hfar hnx
   simp only at hlow hhigh hfar hnx
   generalize (rn : Int) = R at hlow hhigh hnx
   have hitp := iterPos_of hit
   have hit1 := Lib.iterAt_heap wr w.heap.size p pos (pos + wd) hit
   have hown1 := own_iter9 hown.out hit (pos + wd)
   have hbl1 := Lib.below_iterAt hbl.out (Nat.le_refl _) p (pos + wd)
   have hsz1 : w.heap.size < (wr.iterAt w.heap.size p (pos + wd)).heap.size := by rw [Lib.iterAt_size]; exact hB1
   generalize wr.iterAt w.heap.size p (pos + wd) = W1 at *
   clear hD hbl hown hit
   by_cases hc : bt p pos = 47
   ·obtain ⟨e1, rfl⟩ := hlow (by omega)
    have hrn : R = 47 := by omega
    have hrn' : (R == 47) = true := by rw [hrn]; rfl
    have HR := Shut.mk (hrl.out.cut hlt hc)
    have hsl := slice_str p g pos hg (by omega)
    have hne := own_ne9 hown1 hit1
    have HB1 := Shut.mk hbl1
    generalize p.extract g pos = x at *
    clear hlow hhigh hfar hrl hc e1 hrn hbl1
    go_wp2_with (at_builtin; refine wpList_append_own _ rfl _ _ 76 rfl w.heap.size 9 i0 (.string ⟨#[]⟩) 1 16 Tryz.underlying76 hi hz0 hz1 hz2 rfl (by decide) _ _ _ rfl (hown1.alloc _) ⟨W1.heap.size, 0, none⟩ 1 1 [.string x] rfl rfl (cell_one_new _ _ _) ?c2 ?c3 ?c4 ?c5 ?_)
    case c2 => first | rfl | (intro u hu; simp at hu; subst hu; rfl)
    case c3 => unfold maxLen; omega
    case c4 => omega
    case c5 => first | omega | (simp; omega)
    intro v' w4 hown' hgrow _
    rw [tv_snoc] at hown'
    have Q1 : Shut (w4.ownsRow w.heap.size 9 1 v' (done ++ [x]).length (tv (done ++ [x]))) := ⟨by rw [List.length_append, List.length_singleton]; exact hown'⟩
    have Q2 := Shut.mk ((HB1.out.alloc (by omega) (.cells #[.string x] 9)).grown hgrow (by simp; omega) (fun j hj => (hown1.lt j hj).1))
    have hit4 : w4.heap[w.heap.size]? = some (.stringIter p (pos + 1)) := by
     rw [hgrow.block _ (by simp; omega) hne, Below.heap_alloc _ _ _ (by omega)]
     exact hit1
    clear hown' hgrow hown1 HB1
    go_wp2_with fail
    go_roundw
    case rel => exact ⟨pos + 1, pos + 1, _, v', rfl, by go_num, hit4, by omega, Nat.le_refl _, by rw [List.length_append, List.length_singleton]; omega, HR, Q1, Q2⟩
    case measure => rw [hitp, iterPos_of hit4]; omega
   ·have hrn : ¬ R = 47 ∧ pos + wd ≤ p.size ∧ 1 ≤ wd ∧ ∀ d, d < wd → bt p (pos + d) ≠ 47 := by
     by_cases hl : bt p pos < 128
     ·obtain ⟨e1, rfl⟩ := hlow hl
      refine ⟨by omega, by omega, by omega, fun d hd => ?_⟩
      have : d = 0 := by omega
      subst this; exact hc
     ·have h1 := hhigh (by omega)
      have h2 := hfar (by omega)
      refine ⟨by omega, h2.1, h1.2, fun d hd => ?_⟩
      have := h2.2.2 d hd
      omega
    obtain ⟨h1, h2, h3, h4⟩ := hrn
    have hrn' : (R == 47) = false := by rw [beq_eq_false_iff_ne]; exact h1
    have HR := Shut.mk (hrl.out.step h4)
    clear hlow hhigh hfar hrl hc h4
    go_wp2_with fail
    go_roundw
    case rel => exact ⟨pos + wd, g, done, v, rfl, rfl, hit1, h2, by omega, by omega, HR, ⟨hown1⟩, ⟨hbl1⟩⟩
    case measure => rw [hitp, iterPos_of hit1]; omega
  ·have hnx : ∀ ty, (Instr.next (.pointer (some ⟨w.heap.size, 0, none⟩)) true ty).run Tryz.prog wr = _ := fun ty => Lib.run_next_end_at wr w.heap.size p pos ty hit hlt
   have hfin := hrl.out.fin (by omega)
   have hsl := slice_from p g (by omega)
   have hln : (segs (lb p)).length = done.length + 1 := by
    have := congrArg List.length hfin
    rwa [List.length_map, List.length_append, List.length_singleton] at this
   have HL := Shut.mk hln
   have HF := Shut.mk hfin
   have hown1 := hown.out
   generalize p.extract g p.size = x at *
   clear hrl hfin hln hown
   go_wp2_with (at_builtin; refine wpList_append_own _ rfl _ _ 76 rfl w.heap.size 9 i0 (.string ⟨#[]⟩) 1 16 Tryz.underlying76 hi hz0 hz1 hz2 rfl (by decide) _ _ _ rfl (hown1.alloc _) ⟨wr.heap.size, 0, none⟩ 1 1 [.string x] rfl rfl (cell_one_new _ _ _) ?c2 ?c3 ?c4 ?c5 ?_)
   case c2 => first | rfl | (intro u hu; simp at hu; subst hu; rfl)
   case c3 => unfold maxLen; omega
   case c4 => omega
   case c5 => first | omega | (simp; omega)
   intro v' w4 hown' hgrow _
   rw [tv_snoc] at hown'
   have Q2 := Shut.mk ((hbl.out.alloc hB (.cells #[.string x] 9)).grown hgrow (by simp; omega) (fun j hj => (hown1.lt j hj).1))
   have Q1 := Shut.mk hown'
   clear hown' hgrow hown1
   go_wp2_with fail
   go_ret
   exact ⟨_, rfl, by rw [HL.out, HF.out]; exact Q1.out, Q2.out⟩
end Go.Proofs.YtakhagkhngmpaaaGreat
/- StrW: . -/
namespace Go.Proofs.YtakhagkhngmpaaaGreat
set_option maxRecDepth 100000
open Go.RowKit
attribute [local go_sem ↓] Go.wp_at_zero Go.wp_at_succ
end Go.Proofs.YtakhagkhngmpaaaGreat
