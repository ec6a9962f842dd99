/- Texts of ours, laid one behind the other: GrwB, EdD, ReadShort, EdZ, EdE, EcA, LogM, LogS, FrV, FrW, OpenM, EdC, PaI. -/
import Derived.Test.YtoglebfiobofoaaDoorPl3
import Derived.BigQuiet
import Derived.OrdersHeld
import Derived.Deep.RegionHeld3
import Derived.Test.YtoglebfiobofoaaDoorShelf
import Derived.Maps.AppendAt
import Derived.RangeFuncNested
import Derived.RangeFuncLeaves
import Derived.RangeFuncBox
import Derived.Shelf.Abstract
import Derived.WalkKit
import Derived.OwnWalkIn
import Derived.TacticsInMore
import Derived.LoopNIn
import Derived.LoopIn
import Derived.Deep.Slices
import Derived.Deep.Strs
import Derived.ChangeArms
import Derived.ChangeSame
import Derived.WideShapes
import Derived.OpenShut
import Derived.WalkSmall
import Derived.Laws.RangeAny
/- GrwB: A region that draws its order, some of whose operations make memory: what answers one value in every later world is taken first, calls that only make memory too. The way of the proof is that of the library's Derived.OrdersHeld, which is imported; the class of worlds is ours. -/
namespace Go.Proofs.YtoglebfiobofoaaDoor
set_option maxRecDepth 100000
open Go.RowKit

/-- A later world: more memory, what was there untouched. -/
def Later (w w' : World) : Prop := Below w.heap.size w w'
theorem Later.refl (w : World) : Later w w := Below.refl _ _
theorem Later.trans {a b c : World} (h : Later a b) (g : Later b c) : Later a c := Below.trans h (Below.mono g (Below.size h))
section
variable {P : Program} {ops : Array Oper} {Q : Exit → Act → World → Prop} {md : Region.Mode}
/-- Whatever order is picked from here on, in whatever later world. -/
def wpL (P : Program) (md : Region.Mode) (ops : Array Oper) (Q : Exit → Act → World → Prop) : Nat → Array Bool → Act → World → Prop
  | 0, l, a, w => Region.ready md ops l = [] ∧ ∀ x, Later w x → Q .normal a x
  | n + 1, l, a, w => ∀ x, Later w x → (Region.ready md ops l = [] → Q .normal a x) ∧
      ∀ i ∈ Region.ready md ops l, wpOp P ops Q i (fun a' y => Later x y ∧ wpL P md ops Q n (l.setIfInBounds i true) a' y) a x
theorem wpL_later : ∀ (n : Nat) (l : Array Bool) (a : Act) (w y : World), Later w y → wpL P md ops Q n l a w → wpL P md ops Q n l a y
  | 0, _, _, _, _, hy, h => ⟨h.1, fun x hx => h.2 x (hy.trans hx)⟩
  | _ + 1, _, _, _, _, hy, h => fun x hx => h x (hy.trans hx)
theorem wpAny_of_L : ∀ (n : Nat) (l : Array Bool) (a : Act) (w : World), wpL P md ops Q n l a w → wpAny P md ops Q n l a w
  | 0, _, _, w, h => ⟨h.1, h.2 w (Later.refl w)⟩
  | n + 1, _, _, w, h => ⟨(h w (Later.refl w)).1, fun i hi => wpOp_mono (fun a' y hh => wpAny_of_L n _ a' y hh.2) ((h w (Later.refl w)).2 i hi)⟩
/-- One value, in every later world; a call may make memory. -/
def YL (P : Program) (ops : Array Oper) (o : Oper) (v : Value) (a : Act) (w : World) : Prop :=
  (Region.wanted o (yielded ops a.tmps) = true ∧ ∀ x, Later w x → o.quietAt P a (Later x) x v) ∨ (Region.wanted o (yielded ops a.tmps) = false ∧ v = undef)
theorem YL.later {o : Oper} {v : Value} {a : Act} {w y : World} (h : YL P ops o v a w) (hy : Later w y) : YL P ops o v a y :=
  h.imp (fun q => ⟨q.1, fun x hx => q.2 x (hy.trans hx)⟩) id
theorem YL.same {o : Oper} {v : Value} {a b : Act} {w : World} (h : YL P ops o v a w) (he : execOp b.eval o = execOp a.eval o) (hw : Region.wanted o (yielded ops b.tmps) = Region.wanted o (yielded ops a.tmps)) : YL P ops o v b w := by
  unfold YL Oper.quietAt at *
  rw [he, hw]
  exact h
theorem YL.op {i : Nat} {o : Oper} {v : Value} {a : Act} {w x : World} {K : Act → World → Prop} (hi : ops[i]? = some o) (h : YL P ops o v a w) (hx : Later w x) (hk : ∀ y, Later x y → K (a.put o.dst v) y) : wpOp P ops Q i K a x := by
  unfold wpOp
  rw [hi]
  dsimp only
  rcases h with ⟨hw, hq⟩ | ⟨hw, hv⟩
  · rw [if_pos hw]
    refine Or.inl ?_
    have q := hq x hx
    unfold Oper.quietAt at q
    unfold Oper.wp
    revert q
    cases (execOp a.eval o).run P x with
    | halt _ _ => exact False.elim
    | ok r y =>
      cases r with
      | value u => rintro ⟨rfl, rfl⟩; exact hk _ (Later.refl _)
      | skip => rintro ⟨rfl, rfl⟩; exact hk _ (Later.refl _)
      | enter f args => rintro ⟨rfl, hc⟩; exact hc.mono (by rintro _ z ⟨rfl, hz⟩; exact hk _ hz)
      | _ => exact False.elim
  · rw [if_neg (by rw [hw]; exact Bool.false_ne_true), ← hv]
    exact hk _ (Later.refl _)
/-- What an operation may do to the frame: its own slot, or a call that is put off. -/
def Fr (d : Option Tmp) (a b : Act) : Prop := ∃ u, b = a.put d u ∨ ∃ f, b = { a with defers := f :: a.defers }.put d u
theorem op_frame {j : Nat} {oj : Oper} {K : Act → World → Prop} {a : Act} {x : World} (hj : ops[j]? = some oj) (h : wpOp P ops Q j K a x) : wpOp P ops Q j (fun b y => Fr oj.dst a b ∧ K b y) a x := by
  unfold wpOp at h ⊢
  rw [hj] at h ⊢
  dsimp only at h ⊢
  split
  · rename_i hw
    rw [if_pos hw] at h
    refine h.imp_left fun q => ?_
    unfold Oper.wp at q ⊢
    revert q
    cases (execOp a.eval oj).run P x with
    | halt r y => cases r <;> exact id
    | ok r y =>
      cases r with
      | value u => exact fun q => ⟨⟨u, .inl rfl⟩, q⟩
      | skip => exact fun q => ⟨⟨undef, .inl rfl⟩, q⟩
      | defer f => exact fun q => ⟨⟨undef, .inr ⟨f, rfl⟩⟩, q⟩
      | enter f args => exact fun q => Calls.mono q fun e z hz => by cases e <;> first | exact ⟨⟨_, .inl rfl⟩, hz⟩ | exact hz
      | row r args => exact fun q => Rows.mono q fun u z hz => ⟨⟨u, .inl rfl⟩, hz⟩
      | _ => exact id
  · rename_i hw
    rw [if_neg hw] at h
    exact ⟨⟨undef, .inl rfl⟩, h⟩
/-- An operation beside another that has its value already: the library's law for no world at all, and what the frame may be behind it. -/
theorem op_beside {j : Nat} {oi oj : Oper} {v : Value} {w : World} (hj : ops[j]? = some oj) (hap : oi.apart ops oj = true) (hsi : ∀ cs b, oi.op ≠ .select cs b) (hsj : ∀ cs b, oj.op ≠ .select cs b)
    (hQ : ∀ c a w, Q (.panic c) (a.put oi.dst v) w → Q (.panic c) a w) {K : Act → World → Prop} {a : Act} {x : World} (hy : YL P ops oi v a w) (h : wpOp P ops Q j K (a.put oi.dst v) x) :
    wpOp P ops Q j (fun a' y => YL P ops oi v a' w ∧ K (a'.put oi.dst v) y) a x := by
  have h3 := (Oper.apart_spec hap).2.2
  refine wpOp_mono ?_ (op_frame hj (wpOp_putIf (S := fun _ => False) hj hap hsi hsj hQ (hy.imp (fun q => ⟨q.1, fun _ hf => hf.elim⟩) id) h))
  rintro b y ⟨⟨u, rfl | ⟨f, rfl⟩⟩, -, hk⟩
  · exact ⟨hy.same (execOp_put oi hsi a oj.dst u h3) (wanted_put oi a oj.dst u h3), hk⟩
  · have q : YL P ops oi v { a with defers := f :: a.defers } w := hy.same rfl rfl
    exact ⟨q.same (execOp_put oi hsi _ oj.dst u h3) (wanted_put oi _ oj.dst u h3), hk⟩
/-- Who may come up waits for nobody who has not come up. -/
theorem ready_free {l : Array Bool} {i j : Nat} {oj : Oper} (hi : i ∈ Region.ready md ops l) (hj : j ∈ Region.ready md ops l) (ho : ops[j]? = some oj) : ∀ e ∈ oj.after, Region.binds md e = true → e.on ≠ i := by
  obtain ⟨-, o', ho', hall⟩ := mem_ready.1 hj
  obtain rfl : oj = o' := Option.some.inj (ho.symm.trans ho')
  rintro e he hb rfl
  have q := hall e he hb
  have z := (mem_ready.1 hi).1
  grind
theorem wpL_first {i : Nat} {oi : Oper} {v : Value} (hi : ops[i]? = some oi) (hsel : ∀ (j : Nat) (o : Oper) cs b, ops[j]? = some o → o.op ≠ .select cs b) (hQ : ∀ c a w, Q (.panic c) (a.put oi.dst v) w → Q (.panic c) a w) :
    ∀ (n : Nat) (l : Array Bool) (a : Act) (w : World), (∀ j oj, ops[j]? = some oj → j ≠ i → l.getD j true = false → (∀ e ∈ oj.after, Region.binds md e = true → e.on ≠ i) → oi.apart ops oj = true) →
      i ∈ Region.ready md ops l → YL P ops oi v a w → wpL P md ops Q n (l.setIfInBounds i true) (a.put oi.dst v) w → wpL P md ops Q (n + 1) l a w := by
  intro n
  induction n with
  | zero =>
    intro l a w _ hr hy H x hx
    refine ⟨fun h => (by rw [h] at hr; cases hr), fun j hj => ?_⟩
    by_cases hji : j = i
    · subst hji
      exact hy.op hi hx fun y hxy => ⟨hxy, wpL_later 0 _ _ _ _ (hx.trans hxy) H⟩
    · have q := ready_mono hj hji
      rw [H.1] at q
      cases q
  | succ n ih =>
    intro l a w hfree hr hy H x hx
    refine ⟨fun h => (by rw [h] at hr; cases hr), fun j hj => ?_⟩
    by_cases hji : j = i
    · subst hji
      exact hy.op hi hx fun y hxy => ⟨hxy, wpL_later (n + 1) _ _ _ _ (hx.trans hxy) H⟩
    · obtain ⟨hun, oj, hoj, -⟩ := mem_ready.1 hj
      have q := op_beside hoj (hfree j oj hoj hji hun (ready_free hr hj hoj)) (fun cs b => hsel i oi cs b hi) (fun cs b => hsel j oj cs b hoj) hQ hy ((H x hx).2 j (ready_mono hj hji))
      refine wpOp_mono (fun b y hb => ⟨hb.2.1, ih (l.setIfInBounds j true) b y (fun k ok hk hki hku hno => hfree k ok hk hki ?_ hno) (ready_mono hr (Ne.symm hji)) (hb.1.later (hx.trans hb.2.1)) ?_⟩) q
      · by_cases hjk : j = k
        · subst hjk; exact hun
        · rw [getD_set_ne true hjk] at hku; exact hku
      · rw [Array.setIfInBounds_comm _ _ hji]
        exact hb.2.2
theorem at_drop {L r : List Oper} {i : Nat} {o : Oper} (h : L.drop i = o :: r) : L.toArray[i]? = some o := by
  have q : (L.drop i)[0]? = some o := by rw [h]; rfl
  simpa using q
/-- Take number i: a value. -/
theorem wpL_val {L r : List Oper} {i : Nat} {oi : Oper} {v : Value} {n : Nat} {l : Array Bool} {a : Act} {w : World} (hi : L.drop i = oi :: r) (hs : Region.noSelect L.toArray = true) (hf : Region.free md L.toArray l i = true) (hr : (Region.ready md L.toArray l).contains i = true)
    (hQ : ∀ c a w, Q (.panic c) (a.put oi.dst v) w → Q (.panic c) a w) (hw : Region.wanted oi (yielded L.toArray a.tmps) = true) (hy : ∀ x, Later w x → (execOp a.eval oi).run P x = .ok (.value v) x)
    (h : wpL P md L.toArray Q n (l.setIfInBounds i true) (a.put oi.dst v) w) : wpL P md L.toArray Q (n + 1) l a w :=
  wpL_first (at_drop hi) (Region.noSelect_spec hs) hQ n l a w (Region.free_spec (at_drop hi) hf) (by simpa using hr) (Or.inl ⟨hw, fun x hx => by unfold Oper.quietAt; rw [hy x hx]; exact ⟨rfl, rfl⟩⟩) h
/-- Take number i: a call. -/
theorem wpL_call {L r : List Oper} {i : Nat} {oi : Oper} {v : Value} {f : FuncId} {args : Array Value} {n : Nat} {l : Array Bool} {a : Act} {w : World} (hi : L.drop i = oi :: r) (hs : Region.noSelect L.toArray = true) (hf : Region.free md L.toArray l i = true) (hr : (Region.ready md L.toArray l).contains i = true)
    (hQ : ∀ c a w, Q (.panic c) (a.put oi.dst v) w → Q (.panic c) a w) (hw : Region.wanted oi (yielded L.toArray a.tmps) = true) (hy : ∀ x, Later w x → (execOp a.eval oi).run P x = .ok (.enter f args) x)
    (hc : ∀ x, Later w x → Calls P f args x fun e y => e = .returned v ∧ Below x.heap.size x y)
    (h : wpL P md L.toArray Q n (l.setIfInBounds i true) (a.put oi.dst v) w) : wpL P md L.toArray Q (n + 1) l a w :=
  wpL_first (at_drop hi) (Region.noSelect_spec hs) hQ n l a w (Region.free_spec (at_drop hi) hf) (by simpa using hr) (Or.inl ⟨hw, fun x hx => by unfold Oper.quietAt; rw [hy x hx]; exact ⟨rfl, hc x hx⟩⟩) h
/-- One alone may come up: it is carried out in a later world. -/
theorem wpL_one {L r : List Oper} {i : Nat} {oi : Oper} {n : Nat} {l : Array Bool} {a : Act} {w : World} (hr : Region.ready md L.toArray l = [i]) (hi : L.drop i = oi :: r) (hw : Region.wanted oi (yielded L.toArray a.tmps) = true)
    (h : ∀ x, Later w x → ∃ (v : Value) (y : World), (execOp a.eval oi).run P x = .ok (.value v) y ∧ Later x y ∧ wpL P md L.toArray Q n (l.setIfInBounds i true) (a.put oi.dst v) y) : wpL P md L.toArray Q (n + 1) l a w := by
  intro x hx
  rw [hr]
  refine ⟨fun h => (by cases h), fun j hj => ?_⟩
  rw [List.mem_singleton] at hj
  subst hj
  obtain ⟨v, y, h1, h2, h3⟩ := h x hx
  unfold wpOp
  rw [at_drop hi]
  dsimp only
  rw [if_pos hw]
  refine Or.inl ?_
  unfold Oper.wp
  rw [h1]
  exact ⟨h2, h3⟩
theorem wpL_done {l : Array Bool} {a : Act} {w : World} (hr : Region.ready md ops l = []) (h : ∀ x, Later w x → Q .normal a x) : ∀ n, wpL P md ops Q n l a w
  | 0 => ⟨hr, h⟩
  | _ + 1 => fun x hx => ⟨fun _ => h x hx, by rw [hr]; simp⟩
theorem wp_region_later {id : Nat} {a : Act} {w : World} (hm : P.follows .mixedOrders = true) (h : wpL P .any ops Q ops.size (Array.replicate ops.size false) a w.drew) : (Code.region id ops true).wp P Q a w :=
  wp_region_any hm (wpAny_of_L _ _ _ _ h)
end
section
variable {P : Program} {Q : Exit → Act → World → Prop} {md : Region.Mode}
/-- One alone may come up, and its call panics. -/
theorem wpL_panics {L r : List Oper} {i : Nat} {oi : Oper} {f : FuncId} {args : Array Value} {chain : List PanicEntry} {n : Nat} {l : Array Bool} {a : Act} {w : World} (hr : Region.ready md L.toArray l = [i]) (hi : L.drop i = oi :: r) (hw : Region.wanted oi (yielded L.toArray a.tmps) = true)
    (hy : ∀ x, Later w x → (execOp a.eval oi).run P x = .ok (.enter f args) x) (hc : ∀ x, Later w x → Calls P f args x fun e y => e = .panicked chain ∧ Q (.panic chain) a y) : wpL P md L.toArray Q (n + 1) l a w := by
  intro x hx
  rw [hr]
  refine ⟨fun h => (by cases h), fun j hj => ?_⟩
  rw [List.mem_singleton] at hj
  subst hj
  unfold wpOp
  rw [at_drop hi]
  dsimp only
  rw [if_pos hw]
  refine Or.inl ?_
  unfold Oper.wp
  rw [hy x hx]
  exact (hc x hx).mono (by rintro e y ⟨rfl, hq⟩; exact hq)
end
section
variable {P : Program} {Q : Exit → Act → World → Prop} {md : Region.Mode}
/-- Take number i: it is not wanted. -/
theorem wpL_skip {L r : List Oper} {i : Nat} {oi : Oper} {n : Nat} {l : Array Bool} {a : Act} {w : World} (hi : L.drop i = oi :: r) (hs : Region.noSelect L.toArray = true) (hf : Region.free md L.toArray l i = true) (hr : (Region.ready md L.toArray l).contains i = true)
    (hQ : ∀ c a w, Q (.panic c) (a.put oi.dst undef) w → Q (.panic c) a w) (hw : Region.wanted oi (yielded L.toArray a.tmps) = false)
    (h : wpL P md L.toArray Q n (l.setIfInBounds i true) (a.put oi.dst undef) w) : wpL P md L.toArray Q (n + 1) l a w :=
  wpL_first (at_drop hi) (Region.noSelect_spec hs) hQ n l a w (Region.free_spec (at_drop hi) hf) (by simpa using hr) (Or.inr ⟨hw, rfl⟩) h
end
end Go.Proofs.YtoglebfiobofoaaDoor
/- EdD: The model's EditText. -/
namespace Go.Proofs.YtoglebfiobofoaaDoor
set_option maxRecDepth 100000
open Go.RowKit
attribute [local go_sem ↓] Go.wp_at_zero Go.wp_at_succ

/-- A number in bytes. -/
def vb (n : Nat) : ByteArray := ⟨(W.vt n).toArray⟩
/-- The text of a record. -/
def editT (e : EM) : ByteArray := ⟨#[UInt8.ofNat e.kind.toNat, UInt8.ofNat e.who.toNat]⟩ ++ vb e.path.size ++ e.path ++ vb e.dest.size ++ e.dest ++ vb e.num.toNat
/-- What is known of a right record's numbers. -/
theorem edit_nums {e : EM} (h : editOk e = true) : 1 ≤ e.kind ∧ e.kind ≤ 10 ∧ 0 ≤ e.who ∧ e.who ≤ 9 ∧ 0 ≤ e.num ∧ e.num ≤ 1000 := by
  unfold editOk at h
  rw [Bool.and_eq_true, inI_iff] at h
  obtain ⟨⟨h1, h2⟩, h3⟩ := h
  refine ⟨h1, h2, ?_⟩
  by_cases h10 : e.kind = 10
  · rw [if_pos h10] at h3
    simp only [Bool.and_eq_true, beq_iff_eq] at h3
    omega
  · rw [if_neg h10, Bool.and_eq_true] at h3
    have h4 := h3.2
    unfold numsOk at h4
    split at h4
    · rw [Bool.and_eq_true, inI_iff, beq_iff_eq] at h4; omega
    · split at h4
      · rw [Bool.and_eq_true, inI_iff, beq_iff_eq] at h4; omega
      · split at h4
        · rw [Bool.and_eq_true, inI_iff, beq_iff_eq] at h4; omega
        · split at h4
          · rw [Bool.and_eq_true, inI_iff, beq_iff_eq] at h4; omega
          · rw [Bool.and_eq_true, beq_iff_eq, beq_iff_eq] at h4; omega
theorem cell_ltE {w : World} {p : Addr} {v : Value} (h : w.cell? p = some v) : p.block < w.heap.size := by
  by_cases c : p.block < w.heap.size
  · exact c
  · exfalso
    unfold World.cell? at h
    rw [Array.getElem?_eq_none (by omega)] at h
    simp at h
/-- A record's cells, behind a world. -/
def EC (w0 : World) (b : Nat) (e : EM) (w : World) : Prop := w.cell? ⟨b, 0, none⟩ = some (.int .i64 e.kind) ∧ w.cell? ⟨b, 1, none⟩ = some (.string e.path) ∧ w.cell? ⟨b, 2, none⟩ = some (.string e.dest) ∧ w.cell? ⟨b, 3, none⟩ = some (.int .i64 e.num) ∧ w.cell? ⟨b, 4, none⟩ = some (.int .i64 e.who) ∧ Shut (Below w0.heap.size w0 w)
theorem EC.below {w0 : World} {b : Nat} {e : EM} {w w' : World} (h : EC w0 b e w) (hb : Below w.heap.size w w') : EC w0 b e w' :=
  ⟨(hb.cell (p := ⟨b, 0, none⟩) (cell_ltE h.1)).trans h.1, (hb.cell (p := ⟨b, 1, none⟩) (cell_ltE h.2.1)).trans h.2.1, (hb.cell (p := ⟨b, 2, none⟩) (cell_ltE h.2.2.1)).trans h.2.2.1, (hb.cell (p := ⟨b, 3, none⟩) (cell_ltE h.2.2.2.1)).trans h.2.2.2.1, (hb.cell (p := ⟨b, 4, none⟩) (cell_ltE h.2.2.2.2.1)).trans h.2.2.2.2.1, ⟨h.2.2.2.2.2.out.trans (hb.mono h.2.2.2.2.2.out.size)⟩⟩
theorem EC.alloc {w0 : World} {b : Nat} {e : EM} {w : World} (h : EC w0 b e w) (o : Obj) : EC w0 b e (w.alloc o) := h.below ((Below.refl _ _).alloc (Nat.le_refl _) o)
theorem EC.drew {w0 : World} {b : Nat} {e : EM} {w : World} (h : EC w0 b e w) : EC w0 b e w.drew := h.below (Below.drew (Below.refl _ _))
theorem two_cells (w : World) (b : Nat) (c1 c2 : UInt8) (h0 : w.cell? ⟨b, 0, none⟩ = some (.int .u8 (c1.toNat : Int))) (h1 : w.cell? ⟨b, 1, none⟩ = some (.int .u8 (c2.toNat : Int))) : (convert 59 9 (.slice (some ⟨b, 0, none⟩) 2 2)).run Tryd.prog w = .ok (.string ⟨#[c1, c2]⟩) w := by
  refine run_convert_bytes_back _ 59 9 5 ⟨b, 0, none⟩ 2 [c1, c2] Tryd.underlying59 Tryd.underlying5 Tryd.underlying9 (fun j hj => ?_)
  have e : (⟨b, 0, none⟩ : Addr).add j = ⟨b, j, none⟩ := by cases j <;> simp [Addr.add]
  rw [e]
  match j, hj with
  | 0, _ => exact h0
  | 1, _ => exact h1
theorem two_later (x y : World) (c1 c2 : UInt8) (hy : Later (x.alloc (.cells #[.int .u8 (c1.toNat : Int), .int .u8 (c2.toNat : Int)] 5)) y) : (convert 59 9 (.slice (some ⟨x.heap.size, 0, none⟩) 2 2)).run Tryd.prog y = .ok (.string ⟨#[c1, c2]⟩) y :=
  two_cells _ _ c1 c2 ((Below.cell hy (p := ⟨x.heap.size, 0, none⟩) (by simp)).trans (by rw [World.cell?_alloc_mark]; rfl)) ((Below.cell hy (p := ⟨x.heap.size, 1, none⟩) (by simp)).trans (by rw [World.cell?_alloc_mark]; rfl))
theorem u8_byte (x : Int) (h0 : 0 ≤ x) (h1 : x < 256) : IntKind.u8.wrap x = ((UInt8.ofNat x.toNat).toNat : Int) := by
  rw [IntKind.wrap_u8]
  simp
  omega
set_option maxHeartbeats 1000000 in
theorem specEditText (e : EM) (w : World) (hf : EFit e) : Calls Tryd.prog 17 #[ev e] w fun r w' => r = .returned (.tuple #[.string (if editOk e then editT e else ⟨#[]⟩), .bool (editOk e)]) ∧ Below w.heap.size w w' := by
  have HOK := Shut.mk (fun W => specEditOk e W hf)
  cases hok : editOk e with
  | false =>
    rw [hok] at HOK
    clear hok
    obtain ⟨kind, path, dest, num, who⟩ := e
    go_enter Tryd.func17, Tryd.ntmps17
    go_wp2_with (go_at_call 27; refine (HOK.out _).mono ?_; rintro e w1 ⟨rfl, hb1⟩)
    go_ret2
    exact ⟨rfl, ((Below.refl _ _).alloc (Nat.le_refl _) _).trans (hb1.mono (by simp))⟩
  | true =>
    rw [hok] at HOK
    obtain ⟨n1, n2, n3, n4, n5, n6⟩ := edit_nums hok
    obtain ⟨f1, f2⟩ := hf
    obtain ⟨kind, path, dest, num, who⟩ := e
    dsimp only at *
    clear hok
    obtain ⟨n, rfl⟩ := Int.eq_ofNat_of_zero_le n5
    have v1 := W.vt_len path.size
    have v2 := W.vt_len dest.size
    have v3 := W.vt_len n
    have HV1 := Shut.mk (fun W => l01Var_any path.size W (by omega))
    have HV2 := Shut.mk (fun W => l01Var_any dest.size W (by omega))
    have HV3 := Shut.mk (fun W => l01Var_any n W (by omega))
    have hT : editT ⟨kind, path, dest, n, who⟩ = ⟨#[UInt8.ofNat kind.toNat, UInt8.ofNat who.toNat]⟩ ++ (⟨(W.vt path.size).toArray⟩ : ByteArray) ++ path ++ (⟨(W.vt dest.size).toArray⟩ : ByteArray) ++ dest ++ (⟨(W.vt n).toArray⟩ : ByteArray) := rfl
    have t1 : (⟨(W.vt path.size).toArray⟩ : ByteArray).size ≤ 2000000 := by show (W.vt path.size).toArray.size ≤ _; rw [List.size_toArray]; omega
    have t2 : (⟨(W.vt dest.size).toArray⟩ : ByteArray).size ≤ 2000000 := by show (W.vt dest.size).toArray.size ≤ _; rw [List.size_toArray]; omega
    have t3 : (⟨(W.vt n).toArray⟩ : ByteArray).size ≤ 2000000 := by show (W.vt n).toArray.size ≤ _; rw [List.size_toArray]; omega
    have t0 : (⟨#[UInt8.ofNat kind.toNat, UInt8.ofNat who.toNat]⟩ : ByteArray).size ≤ 2 := by simp [ByteArray.size]
    have hk := u8_byte kind (by omega) (by omega)
    have hw := u8_byte who (by omega) (by omega)
    generalize (⟨(W.vt path.size).toArray⟩ : ByteArray) = V1 at HV1 hT t1
    generalize (⟨(W.vt dest.size).toArray⟩ : ByteArray) = V2 at HV2 hT t2
    generalize (⟨(W.vt n).toArray⟩ : ByteArray) = V3 at HV3 hT t3
    obtain ⟨K, hK⟩ : ∃ K : ByteArray, K = ⟨#[UInt8.ofNat kind.toNat, UInt8.ofNat who.toNat]⟩ := ⟨_, rfl⟩
    rw [← hK] at hT t0
    generalize UInt8.ofNat kind.toNat = k1 at hk hK
    generalize UInt8.ofNat who.toNat = k2 at hw hK
    have HK := Shut.mk hK.symm
    clear hK
    rw [hT]
    have HQ1 : Shut (¬ (9223372036854775807 < K.size + V1.size)) := ⟨by omega⟩
    have HQ2 : Shut (¬ (9223372036854775807 < K.size + V1.size + path.size)) := ⟨by omega⟩
    have HQ3 : Shut (¬ (9223372036854775807 < K.size + V1.size + path.size + V2.size)) := ⟨by omega⟩
    have HQ4 : Shut (¬ (9223372036854775807 < K.size + V1.size + path.size + V2.size + dest.size)) := ⟨by omega⟩
    have HQ5 : Shut (¬ (9223372036854775807 < K.size + V1.size + path.size + V2.size + dest.size + V3.size)) := ⟨by omega⟩
    clear hT v1 v2 v3 t0 t1 t2 t3 n1 n2 n3 n4 n5 n6 f1 f2
    go_enter Tryd.func17, Tryd.ntmps17
    go_upto_region 3 with (go_at_call 27; refine (HOK.out _).mono ?_; rintro e w1 ⟨rfl, hb1⟩; have hwc := (wcells_new w #[.int .i64 kind, .string path, .string dest, .int .i64 n, .int .i64 who] 28).grow hb1; have hbb : Below w.heap.size w w1 := ((Below.refl _ _).alloc (Nat.le_refl _) _).trans (hb1.mono (by simp)); have HWC := Shut.mk (And.intro hwc hbb); clear hb1 hwc hbb)
    have HEC : EC w w.heap.size ⟨kind, path, dest, n, who⟩ w1 := ⟨(HWC.out.1.2 0 _ rfl).1, (HWC.out.1.2 1 _ rfl).1, (HWC.out.1.2 2 _ rfl).1, (HWC.out.1.2 3 _ rfl).1, (HWC.out.1.2 4 _ rfl).1, ⟨HWC.out.2⟩⟩
    clear HWC
    have hS := HEC
    obtain ⟨c0, c1, c2, c3, c4, hB⟩ := HEC
    dsimp only at c0 c1 c2 c3 c4
    clear c0 c1 c2 c3 c4 hB
    have HLE : Shut (∀ x, Later w1.drew x → EC w w.heap.size ⟨kind, path, dest, n, who⟩ x) := ⟨fun x hx => (EC.drew hS).below hx⟩
    refine wp_region_later (by kernel_rfl) ?_
    refine wpL_val (i := 0) (v := ?v0) rfl (by kernel_rfl) (by kernel_rfl) (by kernel_rfl) (fun _ _ _ h => h) (by rfl) ?hy0 ?rest0
    case hy0 => (intro x hx; go_simp; try with_reducible rfl)
    try simp only [Act.put, List.setIfInBounds_toArray, List.set_cons_zero, List.set_cons_succ]
    refine wpL_val (i := 1) (v := ?v1) rfl (by kernel_rfl) (by kernel_rfl) (by kernel_rfl) (fun _ _ _ h => h) (by rfl) ?hy1 ?rest1
    case hy1 => (intro x hx; obtain ⟨c0, c1, c2, c3, c4, -⟩ := HLE.out x hx; dsimp only at c0 c1 c2 c3 c4; go_simp; try with_reducible rfl)
    try simp only [Act.put, List.setIfInBounds_toArray, List.set_cons_zero, List.set_cons_succ]
    refine wpL_val (i := 2) (v := ?v2) rfl (by kernel_rfl) (by kernel_rfl) (by kernel_rfl) (fun _ _ _ h => h) (by rfl) ?hy2 ?rest2
    case hy2 => (intro x hx; go_simp; try with_reducible rfl)
    try simp only [Act.put, List.setIfInBounds_toArray, List.set_cons_zero, List.set_cons_succ]
    refine wpL_val (i := 3) (v := ?v3) rfl (by kernel_rfl) (by kernel_rfl) (by kernel_rfl) (fun _ _ _ h => h) (by rfl) ?hy3 ?rest3
    case hy3 => (intro x hx; go_simp; try with_reducible rfl)
    try simp only [Act.put, List.setIfInBounds_toArray, List.set_cons_zero, List.set_cons_succ]
    refine wpL_val (i := 4) (v := ?v4) rfl (by kernel_rfl) (by kernel_rfl) (by kernel_rfl) (fun _ _ _ h => h) (by rfl) ?hy4 ?rest4
    case hy4 => (intro x hx; obtain ⟨c0, c1, c2, c3, c4, -⟩ := HLE.out x hx; dsimp only at c0 c1 c2 c3 c4; go_simp; try with_reducible rfl)
    try simp only [Act.put, List.setIfInBounds_toArray, List.set_cons_zero, List.set_cons_succ]
    refine wpL_val (i := 5) (v := ?v5) rfl (by kernel_rfl) (by kernel_rfl) (by kernel_rfl) (fun _ _ _ h => h) (by rfl) ?hy5 ?rest5
    case hy5 => (intro x hx; go_simp; try with_reducible rfl)
    try simp only [Act.put, List.setIfInBounds_toArray, List.set_cons_zero, List.set_cons_succ]
    refine wpL_val (i := 8) (v := ?v8) rfl (by kernel_rfl) (by kernel_rfl) (by kernel_rfl) (fun _ _ _ h => h) (by rfl) ?hy8 ?rest8
    case hy8 => (intro x hx; go_simp; try with_reducible rfl)
    try simp only [Act.put, List.setIfInBounds_toArray, List.set_cons_zero, List.set_cons_succ]
    refine wpL_val (i := 9) (v := ?v9) rfl (by kernel_rfl) (by kernel_rfl) (by kernel_rfl) (fun _ _ _ h => h) (by rfl) ?hy9 ?rest9
    case hy9 => (intro x hx; obtain ⟨c0, c1, c2, c3, c4, -⟩ := HLE.out x hx; dsimp only at c0 c1 c2 c3 c4; go_simp; try with_reducible rfl)
    try simp only [Act.put, List.setIfInBounds_toArray, List.set_cons_zero, List.set_cons_succ]
    refine wpL_val (i := 10) (v := ?v10) rfl (by kernel_rfl) (by kernel_rfl) (by kernel_rfl) (fun _ _ _ h => h) (by rfl) ?hy10 ?rest10
    case hy10 => (intro x hx; go_simp; try with_reducible rfl)
    try simp only [Act.put, List.setIfInBounds_toArray, List.set_cons_zero, List.set_cons_succ]
    refine wpL_call (i := 11) (v := .string V1) (f := 28) (args := #[.int .i64 (path.size : Nat)]) rfl (by kernel_rfl) (by kernel_rfl) (by kernel_rfl) (fun _ _ _ h => h) (by rfl) ?hy11 (fun x _ => HV1.out x) ?rest11
    case hy11 => (intro x hx; go_simp; try with_reducible rfl)
    try simp only [Act.put, List.setIfInBounds_toArray, List.set_cons_zero, List.set_cons_succ]
    refine wpL_val (i := 13) (v := ?v13) rfl (by kernel_rfl) (by kernel_rfl) (by kernel_rfl) (fun _ _ _ h => h) (by rfl) ?hy13 ?rest13
    case hy13 => (intro x hx; go_simp; try with_reducible rfl)
    try simp only [Act.put, List.setIfInBounds_toArray, List.set_cons_zero, List.set_cons_succ]
    refine wpL_val (i := 14) (v := ?v14) rfl (by kernel_rfl) (by kernel_rfl) (by kernel_rfl) (fun _ _ _ h => h) (by rfl) ?hy14 ?rest14
    case hy14 => (intro x hx; obtain ⟨c0, c1, c2, c3, c4, -⟩ := HLE.out x hx; dsimp only at c0 c1 c2 c3 c4; go_simp; try with_reducible rfl)
    try simp only [Act.put, List.setIfInBounds_toArray, List.set_cons_zero, List.set_cons_succ]
    refine wpL_val (i := 16) (v := ?v16) rfl (by kernel_rfl) (by kernel_rfl) (by kernel_rfl) (fun _ _ _ h => h) (by rfl) ?hy16 ?rest16
    case hy16 => (intro x hx; go_simp; try with_reducible rfl)
    try simp only [Act.put, List.setIfInBounds_toArray, List.set_cons_zero, List.set_cons_succ]
    refine wpL_val (i := 17) (v := ?v17) rfl (by kernel_rfl) (by kernel_rfl) (by kernel_rfl) (fun _ _ _ h => h) (by rfl) ?hy17 ?rest17
    case hy17 => (intro x hx; obtain ⟨c0, c1, c2, c3, c4, -⟩ := HLE.out x hx; dsimp only at c0 c1 c2 c3 c4; go_simp; try with_reducible rfl)
    try simp only [Act.put, List.setIfInBounds_toArray, List.set_cons_zero, List.set_cons_succ]
    refine wpL_val (i := 18) (v := ?v18) rfl (by kernel_rfl) (by kernel_rfl) (by kernel_rfl) (fun _ _ _ h => h) (by rfl) ?hy18 ?rest18
    case hy18 => (intro x hx; go_simp; try with_reducible rfl)
    try simp only [Act.put, List.setIfInBounds_toArray, List.set_cons_zero, List.set_cons_succ]
    refine wpL_call (i := 19) (v := .string V2) (f := 28) (args := #[.int .i64 (dest.size : Nat)]) rfl (by kernel_rfl) (by kernel_rfl) (by kernel_rfl) (fun _ _ _ h => h) (by rfl) ?hy19 (fun x _ => HV2.out x) ?rest19
    case hy19 => (intro x hx; go_simp; try with_reducible rfl)
    try simp only [Act.put, List.setIfInBounds_toArray, List.set_cons_zero, List.set_cons_succ]
    refine wpL_val (i := 21) (v := ?v21) rfl (by kernel_rfl) (by kernel_rfl) (by kernel_rfl) (fun _ _ _ h => h) (by rfl) ?hy21 ?rest21
    case hy21 => (intro x hx; go_simp; try with_reducible rfl)
    try simp only [Act.put, List.setIfInBounds_toArray, List.set_cons_zero, List.set_cons_succ]
    refine wpL_val (i := 22) (v := ?v22) rfl (by kernel_rfl) (by kernel_rfl) (by kernel_rfl) (fun _ _ _ h => h) (by rfl) ?hy22 ?rest22
    case hy22 => (intro x hx; obtain ⟨c0, c1, c2, c3, c4, -⟩ := HLE.out x hx; dsimp only at c0 c1 c2 c3 c4; go_simp; try with_reducible rfl)
    try simp only [Act.put, List.setIfInBounds_toArray, List.set_cons_zero, List.set_cons_succ]
    refine wpL_val (i := 24) (v := ?v24) rfl (by kernel_rfl) (by kernel_rfl) (by kernel_rfl) (fun _ _ _ h => h) (by rfl) ?hy24 ?rest24
    case hy24 => (intro x hx; go_simp; try with_reducible rfl)
    try simp only [Act.put, List.setIfInBounds_toArray, List.set_cons_zero, List.set_cons_succ]
    refine wpL_val (i := 25) (v := ?v25) rfl (by kernel_rfl) (by kernel_rfl) (by kernel_rfl) (fun _ _ _ h => h) (by rfl) ?hy25 ?rest25
    case hy25 => (intro x hx; obtain ⟨c0, c1, c2, c3, c4, -⟩ := HLE.out x hx; dsimp only at c0 c1 c2 c3 c4; go_simp; try with_reducible rfl)
    try simp only [Act.put, List.setIfInBounds_toArray, List.set_cons_zero, List.set_cons_succ]
    refine wpL_call (i := 26) (v := .string V3) (f := 28) (args := #[.int .i64 n]) rfl (by kernel_rfl) (by kernel_rfl) (by kernel_rfl) (fun _ _ _ h => h) (by rfl) ?hy26 (fun x _ => HV3.out x) ?rest26
    case hy26 => (intro x hx; go_simp; try with_reducible rfl)
    try simp only [Act.put, List.setIfInBounds_toArray, List.set_cons_zero, List.set_cons_succ]
    refine wpL_one (i := 6) (by kernel_rfl) rfl (by rfl) ?_
    intro x hx
    refine ⟨.slice (some ⟨x.heap.size, 0, none⟩) 2 2, x.alloc (.cells #[.int .u8 (k1.toNat : Int), .int .u8 (k2.toNat : Int)] 5), ?_, (Below.refl _ _).alloc (Nat.le_refl _) _, ?_⟩
    · go_simp
    have HX : Shut (∀ y, Later (x.alloc (.cells #[.int .u8 (k1.toNat : Int), .int .u8 (k2.toNat : Int)] 5)) y → (convert 59 9 (.slice (some ⟨x.heap.size, 0, none⟩) 2 2)).run Tryd.prog y = .ok (.string K) y) := ⟨fun y hy => by
      rw [← HK.out]
      exact two_later x y k1 k2 hy⟩
    try simp only [Act.put, List.setIfInBounds_toArray, List.set_cons_zero, List.set_cons_succ]
    refine wpL_val (i := 7) (v := ?v7) rfl (by kernel_rfl) (by kernel_rfl) (by kernel_rfl) (fun _ _ _ h => h) (by rfl) ?hy7 ?rest7
    case hy7 => (intro x hx; have hX := HX.out x hx; go_simp; try with_reducible rfl)
    try simp only [Act.put, List.setIfInBounds_toArray, List.set_cons_zero, List.set_cons_succ]
    refine wpL_val (i := 12) (v := ?v12) rfl (by kernel_rfl) (by kernel_rfl) (by kernel_rfl) (fun _ _ _ h => h) (by rfl) ?hy12 ?rest12
    case hy12 => (intro x hx; have q := HQ1.out; go_simp; try with_reducible rfl)
    try simp only [Act.put, List.setIfInBounds_toArray, List.set_cons_zero, List.set_cons_succ]
    refine wpL_val (i := 15) (v := ?v15) rfl (by kernel_rfl) (by kernel_rfl) (by kernel_rfl) (fun _ _ _ h => h) (by rfl) ?hy15 ?rest15
    case hy15 => (intro x hx; have q := HQ2.out; go_simp; try with_reducible rfl)
    try simp only [Act.put, List.setIfInBounds_toArray, List.set_cons_zero, List.set_cons_succ]
    refine wpL_val (i := 20) (v := ?v20) rfl (by kernel_rfl) (by kernel_rfl) (by kernel_rfl) (fun _ _ _ h => h) (by rfl) ?hy20 ?rest20
    case hy20 => (intro x hx; have q := HQ3.out; go_simp; try with_reducible rfl)
    try simp only [Act.put, List.setIfInBounds_toArray, List.set_cons_zero, List.set_cons_succ]
    refine wpL_val (i := 23) (v := ?v23) rfl (by kernel_rfl) (by kernel_rfl) (by kernel_rfl) (fun _ _ _ h => h) (by rfl) ?hy23 ?rest23
    case hy23 => (intro x hx; have q := HQ4.out; go_simp; try with_reducible rfl)
    try simp only [Act.put, List.setIfInBounds_toArray, List.set_cons_zero, List.set_cons_succ]
    refine wpL_val (i := 27) (v := ?v27) rfl (by kernel_rfl) (by kernel_rfl) (by kernel_rfl) (fun _ _ _ h => h) (by rfl) ?hy27 ?rest27
    case hy27 => (intro x hx; have q := HQ5.out; go_simp; try with_reducible rfl)
    try simp only [Act.put, List.setIfInBounds_toArray, List.set_cons_zero, List.set_cons_succ]
    refine wpL_val (i := 28) (v := ?v28) rfl (by kernel_rfl) (by kernel_rfl) (by kernel_rfl) (fun _ _ _ h => h) (by rfl) ?hy28 ?rest28
    case hy28 => (intro x hx; go_simp; try with_reducible rfl)
    try simp only [Act.put, List.setIfInBounds_toArray, List.set_cons_zero, List.set_cons_succ]
    refine wpL_val (i := 29) (v := ?v29) rfl (by kernel_rfl) (by kernel_rfl) (by kernel_rfl) (fun _ _ _ h => h) (by rfl) ?hy29 ?rest29
    case hy29 => (intro x hx; go_simp; try with_reducible rfl)
    try simp only [Act.put, List.setIfInBounds_toArray, List.set_cons_zero, List.set_cons_succ]
    refine wpL_done (by kernel_rfl) ?_ _
    intro y hy
    have HB := (EC.below (HLE.out x hx) (Later.trans (a := x) ((Below.refl _ _).alloc (Nat.le_refl _) _) hy)).2.2.2.2.2
    go_wp2_with fail
    go_ret2
    exact ⟨rfl, HB.out⟩
end Go.Proofs.YtoglebfiobofoaaDoor
/- ReadShort: The walks of the two ReadShort: each returns what 'readShortI' says. -/
namespace Go.Proofs.YtoglebfiobofoaaDoor
set_option maxRecDepth 100000
open Go.RowKit

def rsV : Option (ByteArray × Nat) → Value
  | none => .tuple #[.string ⟨#[]⟩, .int .i64 0, .bool false]
  | some (t, p) => .tuple #[.string t, .int .i64 p, .bool true]
theorem rsV_form : ∀ x, ∃ (t : ByteArray) (q : Int) (b : Bool), rsV x = .tuple #[.string t, .int .i64 q, .bool b]
  | none => ⟨⟨#[]⟩, 0, false, rfl⟩
  | some (t, p) => ⟨t, p, true, rfl⟩
def readShortI (s : ByteArray) (a : Int) : Option (ByteArray × Nat) :=
  match readVarI s a with
  | none => none
  | some (n, p) => if n ≤ 20000 ∧ p + n ≤ s.size then some (s.extract p (p + n), p + n) else none

theorem strClone (s : ByteArray) (w : World) (h : s.size ≤ 281474976710656) :
    Calls Tryd.prog 56 #[.string s] w fun e w' => e = .returned (.string s) ∧ Below w.heap.size w w' := by
  go_enter Tryd.func56, Tryd.ntmps56
  go_wp2_with fail
  refine (Tryd.stringslite_Clone s _ h).mono ?_
  rintro e w1 ⟨rfl, hb⟩
  go_wp2_with fail
  go_ret
  exact ⟨rfl, hb⟩

set_option maxHeartbeats 400000 in
theorem implReadShort (s : ByteArray) (a : Int) (w : World) (hs : s.size ≤ 1048576) :
    Calls Tryd.prog 67 #[.string s, .int .i64 a] w fun e w' => e = .returned (rsV (readShortI s a)) ∧ Below w.heap.size w w' := by
  have hc := implReadVar s a w hs
  unfold readShortI
  cases hv : readVarI s a with
  | none =>
    rw [hv] at hc
    have hc' : Calls Tryd.prog 55 #[.string s, .int .i64 a] w fun e w' => e = .returned (.tuple #[.int .i64 0, .int .i64 0, .bool false]) ∧ w' = w := hc
    have HC : Hid _ := hc'
    clear hc hc' hv
    go_enter Tryd.func67, Tryd.ntmps67
    go_wp2_with fail
    refine Calls.mono HC.out ?_
    rintro e w' ⟨rfl, rfl⟩
    go_wp2_with fail
    go_ret3
    exact ⟨rfl, Below.refl _ _⟩
  | some x =>
    obtain ⟨n, p⟩ := x
    obtain ⟨hn, hp⟩ := readVarI_bounds hv
    rw [hv] at hc
    have hc' : Calls Tryd.prog 55 #[.string s, .int .i64 a] w fun e w' => e = .returned (.tuple #[.int .i64 n, .int .i64 p, .bool true]) ∧ w' = w := hc
    have HC : Hid _ := hc'
    clear hc hc' hv
    show Calls _ _ _ _ fun e w' => e = .returned (rsV (if n ≤ 20000 ∧ p + n ≤ s.size then some (s.extract p (p + n), p + n) else none)) ∧ _
    by_cases h1 : 20000 < n
    · rw [if_neg (by omega)]
      go_enter Tryd.func67, Tryd.ntmps67
      go_wp2_with fail
      refine Calls.mono HC.out ?_
      rintro e w' ⟨rfl, rfl⟩
      go_wp2_with fail
      go_ret3
      exact ⟨rfl, Below.refl _ _⟩
    · by_cases h2 : s.size < p + n
      · rw [if_neg (by omega)]
        go_enter Tryd.func67, Tryd.ntmps67
        go_wp2_with fail
        refine Calls.mono HC.out ?_
        rintro e w' ⟨rfl, rfl⟩
        go_wp2_with fail
        go_ret3
        exact ⟨rfl, Below.refl _ _⟩
      · rw [if_pos (by omega)]
        have hsl := slice_str s p (p + n) (by omega) (by omega)
        rw [show ((p + n : Nat) : Int) = (p : Int) + (n : Int) from by omega] at hsl
        have hcl : (s.extract p (p + n)).size ≤ 281474976710656 := by simp; omega
        go_enter Tryd.func67, Tryd.ntmps67
        go_wp2_with fail
        refine Calls.mono HC.out ?_
        rintro e w' ⟨rfl, rfl⟩
        go_wp2_with fail
        refine (strClone (s.extract p (p + n)) _ hcl).mono ?_
        rintro e w1 ⟨rfl, hb⟩
        go_wp2_with fail
        go_ret3
        exact ⟨rfl, hb⟩

set_option maxHeartbeats 400000 in
theorem specReadShort (s : ByteArray) (a : Int) (w : World) (hs : s.size ≤ 1048576) :
    Calls Tryd.prog 38 #[.string s, .int .i64 a] w fun e w' => e = .returned (rsV (readShortI s a)) ∧ Below w.heap.size w w' := by
  have hc := specReadVar s a w hs
  unfold readShortI
  cases hv : readVarI s a with
  | none =>
    rw [hv] at hc
    have hc' : Calls Tryd.prog 37 #[.string s, .int .i64 a] w fun e w' => e = .returned (.tuple #[.int .i64 0, .int .i64 0, .bool false]) ∧ Below w.heap.size w w' := hc
    have HC : Hid _ := hc'
    clear hc hc' hv
    go_enter Tryd.func38, Tryd.ntmps38
    go_wp2_with fail
    refine Calls.mono HC.out ?_
    rintro e w' ⟨rfl, hb0⟩
    go_wp2_with fail
    go_ret3
    exact ⟨rfl, hb0⟩
  | some x =>
    obtain ⟨n, p⟩ := x
    obtain ⟨hn, hp⟩ := readVarI_bounds hv
    rw [hv] at hc
    have hc' : Calls Tryd.prog 37 #[.string s, .int .i64 a] w fun e w' => e = .returned (.tuple #[.int .i64 n, .int .i64 p, .bool true]) ∧ Below w.heap.size w w' := hc
    have HC : Hid _ := hc'
    clear hc hc' hv
    show Calls _ _ _ _ fun e w' => e = .returned (rsV (if n ≤ 20000 ∧ p + n ≤ s.size then some (s.extract p (p + n), p + n) else none)) ∧ _
    by_cases h1 : 20000 < n
    · rw [if_neg (by omega)]
      go_enter Tryd.func38, Tryd.ntmps38
      go_wp2_with fail
      refine Calls.mono HC.out ?_
      rintro e w' ⟨rfl, hb0⟩
      go_wp2_with fail
      go_ret3
      exact ⟨rfl, hb0⟩
    · by_cases h2 : s.size < p + n
      · rw [if_neg (by omega)]
        go_enter Tryd.func38, Tryd.ntmps38
        go_wp2_with fail
        refine Calls.mono HC.out ?_
        rintro e w' ⟨rfl, hb0⟩
        go_wp2_with fail
        go_ret3
        exact ⟨rfl, hb0⟩
      · rw [if_pos (by omega)]
        have hsl := slice_str s p (p + n) (by omega) (by omega)
        rw [show ((p + n : Nat) : Int) = (p : Int) + (n : Int) from by omega] at hsl
        go_enter Tryd.func38, Tryd.ntmps38
        go_wp2_with fail
        refine Calls.mono HC.out ?_
        rintro e w' ⟨rfl, hb0⟩
        go_wp2_with fail
        go_ret3
        exact ⟨rfl, hb0⟩
end Go.Proofs.YtoglebfiobofoaaDoor
/- EdZ: A record of nothing; a record written into a box. -/
namespace Go.Proofs.YtoglebfiobofoaaDoor
set_option maxRecDepth 100000
open Go.RowKit

def zeroE : EM := ⟨0, ⟨#[]⟩, ⟨#[]⟩, 0, 0⟩
/-- A record written into a box. -/
def put5 (w : World) (A : Nat) (X : EM) : World := ((((w.setCell ⟨A, 0, none⟩ (.int .i64 X.kind)).setCell ⟨A, 1, none⟩ (.string X.path)).setCell ⟨A, 2, none⟩ (.string X.dest)).setCell ⟨A, 3, none⟩ (.int .i64 X.num)).setCell ⟨A, 4, none⟩ (.int .i64 X.who)
end Go.Proofs.YtoglebfiobofoaaDoor
/- EdE: The model's ReadEdit. -/
namespace Go.Proofs.YtoglebfiobofoaaDoor
set_option maxRecDepth 100000
open Go.RowKit
open Go.PlainAid (bt)
attribute [local go_sem ↓] Go.wp_at_zero Go.wp_at_succ

/-- What ReadShort hands back, apart. -/
def r3 (o : Option (ByteArray × Nat)) : ByteArray × Nat × Bool := match o with
  | none => (⟨#[]⟩, 0, false)
  | some (t, p) => (t, p, true)
theorem rsV_r3 (o : Option (ByteArray × Nat)) : rsV o = .tuple #[.string (r3 o).1, .int .i64 ((r3 o).2.1 : Nat), .bool (r3 o).2.2] := by cases o <;> rfl
/-- What ReadVar hands back, apart. -/
def n3 (o : Option (Nat × Nat)) : Nat × Nat × Bool := match o with
  | none => (0, 0, false)
  | some (t, p) => (t, p, true)
theorem rvV_n3 (o : Option (Nat × Nat)) : rvV o = .tuple #[.int .i64 ((n3 o).1 : Nat), .int .i64 ((n3 o).2.1 : Nat), .bool (n3 o).2.2] := by cases o <;> rfl
/-- The three parts of a record's text. -/
def part1 (s : ByteArray) : ByteArray × Nat × Bool := r3 (readShortI s 2)
def part2 (s : ByteArray) : ByteArray × Nat × Bool := r3 (readShortI s ((part1 s).2.1 : Nat))
def part3 (s : ByteArray) : Nat × Nat × Bool := n3 (readVarI s ((part2 s).2.1 : Nat))
/-- The record that a text would be of. -/
def wouldE (s : ByteArray) : EM := ⟨bt s 0, (part1 s).1, (part2 s).1, ((part3 s).1 : Nat), bt s 1⟩
/-- Whether it is. -/
def isE (s : ByteArray) : Bool := decide (2 ≤ s.size) && (part1 s).2.2 && (part2 s).2.2 && (part3 s).2.2 && editOk (wouldE s) && decide (editT (wouldE s) = s)
def readE (s : ByteArray) : EM × Bool := if isE s then (wouldE s, true) else (zeroE, false)
theorem short_size (s : ByteArray) (a : Int) : (r3 (readShortI s a)).1.size ≤ 20000 := by
  unfold readShortI
  cases readVarI s a with
  | none => exact Nat.zero_le _
  | some x =>
    obtain ⟨n, p⟩ := x
    dsimp only
    split
    · rename_i h
      simp only [r3, ByteArray.size_extract]
      omega
    · exact Nat.zero_le _
/-- Two records in their boxes. -/
def R2 (w0 w : World) (A B : Nat) (X Y : EM) : Prop := WCells w A (ecells X) ∧ WCells w B (ecells Y) ∧ A ≠ B ∧ w0.heap.size ≤ A ∧ w0.heap.size ≤ B ∧ Below w0.heap.size w0 w
theorem R2.below {w0 w w' : World} {A B : Nat} {X Y : EM} (h : R2 w0 w A B X Y) (hb : Below w.heap.size w w') : R2 w0 w' A B X Y :=
  ⟨h.1.grow hb, h.2.1.grow hb, h.2.2.1, h.2.2.2.1, h.2.2.2.2.1, h.2.2.2.2.2.trans (hb.mono h.2.2.2.2.2.size)⟩
theorem R2.set {w0 w : World} {A B : Nat} {X Y Z : EM} (h : R2 w0 w A B X Y) (i : Nat) (v : Value) (hi : i < 5) (hz : (ecells Y).set i v = ecells Z) : R2 w0 (w.setCell ⟨B, i, none⟩ v) A B X Z :=
  ⟨h.1.other _ _ h.2.2.1, by rw [← hz]; exact h.2.1.set i v (by rw [ecells_len]; exact hi), h.2.2.1, h.2.2.2.1, h.2.2.2.2.1, h.2.2.2.2.2.setCell h.2.2.2.2.1 _⟩
theorem R2.swap {w0 w : World} {A B : Nat} {X Y : EM} (h : R2 w0 w A B X Y) : R2 w0 w B A Y X := ⟨h.2.1, h.1, Ne.symm h.2.2.1, h.2.2.2.2.1, h.2.2.2.1, h.2.2.2.2.2⟩
theorem R2.got {w0 w : World} {A B : Nat} {X Y : EM} (h : R2 w0 w A B X Y) (i : Nat) (v : Value) (hv : (ecells Y)[i]? = some v) : w.cell? ⟨B, i, none⟩ = some v ∧ w.frozen? ⟨B, i, none⟩ = false := h.2.1.2 i v hv
theorem R2.put {w0 w : World} {A B : Nat} {X Y : EM} (h : R2 w0 w A B X Y) (Z : EM) : R2 w0 (put5 w A Z) A B Z Y :=
  ((((((h.swap).set (Z := ⟨Z.kind, X.path, X.dest, X.num, X.who⟩) 0 _ (by omega) rfl).set (Z := ⟨Z.kind, Z.path, X.dest, X.num, X.who⟩) 1 _ (by omega) rfl).set (Z := ⟨Z.kind, Z.path, Z.dest, X.num, X.who⟩) 2 _ (by omega) rfl).set (Z := ⟨Z.kind, Z.path, Z.dest, Z.num, X.who⟩) 3 _ (by omega) rfl).set (Z := Z) 4 _ (by omega) rfl).swap
theorem str_neE {a b : ByteArray} (h : a ≠ b) : (a.toList == b.toList) = false := by
  rw [ByteArray.toList_eq, ByteArray.toList_eq, beq_eq_false_iff_ne]
  exact fun e => h (ByteArray.ext (Array.toList_inj.1 e))
theorem bt_wrap (s : ByteArray) (k : Nat) : wrap64 (bt s k) = bt s k := by
  have h : 0 ≤ bt s k ∧ bt s k ≤ 255 := by
    unfold bt
    split
    · rename_i h
      have := (s[k]'h).toNat_lt
      omega
    · omega
  unfold wrap64
  omega
set_option maxHeartbeats 1000000 in
theorem specReadEdit (s : ByteArray) (w : World) (hs : s.size ≤ 1048576) : Calls Tryd.prog 24 #[.string s] w fun r w' => r = .returned (.tuple #[ev (readE s).1, .bool (readE s).2]) ∧ Below w.heap.size w w' := by
  by_cases h2 : s.size < 2
  · have he : readE s = (zeroE, false) := by
      unfold readE isE
      rw [decide_eq_false (by omega)]
      rfl
    rw [he]
    have h2' : (s.size : Int) < 2 := by omega
    go_enter Tryd.func24, Tryd.ntmps24
    go_wp2_with fail
    refine bodyPost_ret (v := .tuple #[ev zeroE, .bool false]) (by simp [results, Tryd.results24, go_sem, zeroE]) rfl ⟨rfl, ?_⟩
    exact (Below.refl _ _).alloc (Nat.le_refl _) _
  · have HS1 := Shut.mk (fun W => specReadShort s 2 W hs)
    have HS2 := Shut.mk (fun W => specReadShort s ((part1 s).2.1 : Nat) W hs)
    have HS3 := Shut.mk (fun W => specReadVar s ((part2 s).2.1 : Nat) W hs)
    have HT := Shut.mk (fun W => specEditText (wouldE s) W ⟨Nat.le_trans (short_size s _) (by omega), Nat.le_trans (short_size s _) (by omega)⟩)
    simp only [rsV_r3] at HS1 HS2
    simp only [rvV_n3] at HS3
    change Shut (∀ W, Calls Tryd.prog 38 #[.string s, .int .i64 2] W fun e w' => e = .returned (.tuple #[.string (part1 s).1, .int .i64 ((part1 s).2.1 : Nat), .bool (part1 s).2.2]) ∧ Below W.heap.size W w') at HS1
    change Shut (∀ W, Calls Tryd.prog 38 #[.string s, .int .i64 ((part1 s).2.1 : Nat)] W fun e w' => e = .returned (.tuple #[.string (part2 s).1, .int .i64 ((part2 s).2.1 : Nat), .bool (part2 s).2.2]) ∧ Below W.heap.size W w') at HS2
    change Shut (∀ W, Calls Tryd.prog 37 #[.string s, .int .i64 ((part2 s).2.1 : Nat)] W fun e w' => e = .returned (.tuple #[.int .i64 ((part3 s).1 : Nat), .int .i64 ((part3 s).2.1 : Nat), .bool (part3 s).2.2]) ∧ Below W.heap.size W w') at HS3
    have HRE : Shut (readE s = if (part1 s).2.2 && (part2 s).2.2 && (part3 s).2.2 && editOk (wouldE s) && decide (editT (wouldE s) = s) then (wouldE s, true) else (zeroE, false)) := ⟨by unfold readE isE; rw [decide_eq_true (by omega), Bool.true_and]⟩
    obtain ⟨E, hE⟩ : ∃ E, E = wouldE s := ⟨_, rfl⟩
    have hE0 : E.kind = bt s 0 := by rw [hE]; rfl
    have hE1 : E.path = (part1 s).1 := by rw [hE]; rfl
    have hE2 : E.dest = (part2 s).1 := by rw [hE]; rfl
    have hE3 : E.num = ((part3 s).1 : Nat) := by rw [hE]; rfl
    have hE4 : E.who = bt s 1 := by rw [hE]; rfl
    rw [← hE] at HT HRE
    rw [← hE1] at HS1
    rw [← hE2] at HS2
    rw [← hE3] at HS3
    clear hE hE1 hE2 hE3
    generalize (part1 s).2.1 = a1 at HS1 HS2
    generalize (part2 s).2.1 = a2 at HS2 HS3
    generalize (part3 s).2.1 = a3 at HS3
    generalize (part1 s).2.2 = b1 at HS1 HRE
    generalize (part2 s).2.2 = b2 at HS2 HRE
    generalize (part3 s).2.2 = b3 at HS3 HRE
    obtain ⟨BK, hBK⟩ : ∃ BK, BK = (if editOk E then editT E else ⟨#[]⟩) := ⟨_, rfl⟩
    have hBT : editOk E = true → BK = editT E := fun h => by rw [hBK, if_pos h]
    rw [← hBK] at HT
    clear hBK
    generalize editOk E = b4 at HT HRE hBT
    have HBT := Shut.mk hBT
    clear hBT
    have hb := Go.PlainAid.get_bt s
    obtain ⟨kind, path, dest, num, who⟩ := E
    dsimp only at *
    subst hE0 hE4
    have h2' : ¬ ((s.size : Int) < 2) := by omega
    have h3' : (0 : Int) < s.size := by omega
    have h4' : (1 : Int) < s.size := by omega
    have h3 : 0 < s.size := by omega
    have h4 : 1 < s.size := by omega
    have hw0 := bt_wrap s 0
    have hw1 := bt_wrap s 1
    go_enter Tryd.func24, Tryd.ntmps24
    go_upto_region 3 with fail
    go_region
    have HR : Shut (R2 w ((w.alloc (.cells #[.int .i64 0, .string ⟨#[]⟩, .string ⟨#[]⟩, .int .i64 0, .int .i64 0] 28)).alloc (.cells #[.int .i64 (bt s 0), .string ⟨#[]⟩, .string ⟨#[]⟩, .int .i64 0, .int .i64 (bt s 1)] 28)).drew w.heap.size (w.heap.size + 1) zeroE ⟨bt s 0, ⟨#[]⟩, ⟨#[]⟩, 0, bt s 1⟩) := by
      refine ⟨⟨((wcells_new w _ _).alloc _).grow (Below.drew (Below.refl _ _)), ?_, by omega, by omega, by omega, (((Below.refl _ _).alloc (Nat.le_refl _) _).alloc (by simp) _).drew⟩⟩
      have q := wcells_new (w.alloc (.cells #[.int .i64 0, .string ⟨#[]⟩, .string ⟨#[]⟩, .int .i64 0, .int .i64 0] 28)) #[.int .i64 (bt s 0), .string ⟨#[]⟩, .string ⟨#[]⟩, .int .i64 0, .int .i64 (bt s 1)] 28
      rw [World.size_alloc] at q
      exact q.grow (Below.drew (Below.refl _ _))
    obtain ⟨W4, hW4⟩ : ∃ W4, W4 = ((w.alloc (.cells #[.int .i64 0, .string ⟨#[]⟩, .string ⟨#[]⟩, .int .i64 0, .int .i64 0] 28)).alloc (.cells #[.int .i64 (bt s 0), .string ⟨#[]⟩, .string ⟨#[]⟩, .int .i64 0, .int .i64 (bt s 1)] 28)).drew := ⟨_, rfl⟩
    rw [← hW4] at HR ⊢
    clear hW4
    go_upto_region 5 with (go_at_call 38; refine (HS1.out _).mono ?_; rintro e w5 ⟨rfl, hb5⟩; have HR2 := Shut.mk (HR.out.below hb5); clear hb5 HR; have HR := HR2; clear HR2)
    go_upto_region 6 with (go_at_call 38; refine (HS2.out _).mono ?_; rintro e w5 ⟨rfl, hb5⟩; have HR2 := Shut.mk (HR.out.below hb5); clear hb5 HR; have HR := HR2; clear HR2)
    go_upto_region 7 with (go_at_call 37; refine (HS3.out _).mono ?_; rintro e w5 ⟨rfl, hb5⟩; have HR2 := Shut.mk (HR.out.below hb5); clear hb5 HR; have HR := HR2; clear HR2)
    have x := HR.out.got 1 _ rfl
    obtain ⟨x0, x1⟩ := x
    go_upto_region 8 with fail
    have HR2 : Shut (R2 w (w5.setCell ⟨w.heap.size + 1, 1, none⟩ (.string path)) w.heap.size (w.heap.size + 1) zeroE ⟨bt s 0, path, ⟨#[]⟩, 0, bt s 1⟩) := ⟨HR.out.set 1 _ (by omega) rfl⟩
    obtain ⟨w6, hw6⟩ : ∃ w6, w6 = w5.setCell ⟨w.heap.size + 1, 1, none⟩ (.string path) := ⟨_, rfl⟩
    rw [← hw6] at HR2 ⊢
    clear hw6 HR x0 x1
    have HR := HR2
    clear HR2
    try clear w5
    obtain ⟨w5, hw5⟩ : ∃ w5, w5 = w6 := ⟨_, rfl⟩
    rw [← hw5] at HR ⊢
    clear hw5
    try clear w6
    have x := HR.out.got 2 _ rfl
    obtain ⟨x0, x1⟩ := x
    go_upto_region 9 with fail
    have HR2 : Shut (R2 w (w5.setCell ⟨w.heap.size + 1, 2, none⟩ (.string dest)) w.heap.size (w.heap.size + 1) zeroE ⟨bt s 0, path, dest, 0, bt s 1⟩) := ⟨HR.out.set 2 _ (by omega) rfl⟩
    obtain ⟨w6, hw6⟩ : ∃ w6, w6 = w5.setCell ⟨w.heap.size + 1, 2, none⟩ (.string dest) := ⟨_, rfl⟩
    rw [← hw6] at HR2 ⊢
    clear hw6 HR x0 x1
    have HR := HR2
    clear HR2
    try clear w5
    obtain ⟨w5, hw5⟩ : ∃ w5, w5 = w6 := ⟨_, rfl⟩
    rw [← hw5] at HR ⊢
    clear hw5
    try clear w6
    have x := HR.out.got 3 _ rfl
    obtain ⟨x0, x1⟩ := x
    go_upto_region 10 with fail
    have HR2 : Shut (R2 w (w5.setCell ⟨w.heap.size + 1, 3, none⟩ (.int .i64 num)) w.heap.size (w.heap.size + 1) zeroE ⟨bt s 0, path, dest, num, bt s 1⟩) := ⟨HR.out.set 3 _ (by omega) rfl⟩
    obtain ⟨w6, hw6⟩ : ∃ w6, w6 = w5.setCell ⟨w.heap.size + 1, 3, none⟩ (.int .i64 num) := ⟨_, rfl⟩
    rw [← hw6] at HR2 ⊢
    clear hw6 HR x0 x1
    have HR := HR2
    clear HR2
    try clear w5
    obtain ⟨w5, hw5⟩ : ∃ w5, w5 = w6 := ⟨_, rfl⟩
    rw [← hw5] at HR ⊢
    clear hw5
    try clear w6
    have c0 := (HR.out.got 0 _ rfl).1
    have c1 := (HR.out.got 1 _ rfl).1
    have c2 := (HR.out.got 2 _ rfl).1
    have c3 := (HR.out.got 3 _ rfl).1
    have c4 := (HR.out.got 4 _ rfl).1
    dsimp only at c0 c1 c2 c3 c4
    go_upto_region 11 with (go_at_call 17; refine (HT.out _).mono ?_; rintro e w7 ⟨rfl, hb7⟩; have HR2 := Shut.mk (HR.out.below hb7); clear hb7 HR c0 c1 c2 c3 c4; have HR := HR2; clear HR2)
    have HB := Shut.mk HR.out.2.2.2.2.2
    obtain ⟨z0, y0⟩ := HR.out.swap.got 0 _ rfl
    obtain ⟨z1, y1⟩ := HR.out.swap.got 1 _ rfl
    obtain ⟨z2, y2⟩ := HR.out.swap.got 2 _ rfl
    obtain ⟨z3, y3⟩ := HR.out.swap.got 3 _ rfl
    obtain ⟨z4, y4⟩ := HR.out.swap.got 4 _ rfl
    cases b1 with
    | false =>
      go_wp2_with fail
      have HP := Shut.mk (HR.out.put zeroE)
      change bodyPost _ _ _ _ _ (put5 w7 w.heap.size zeroE)
      generalize put5 w7 w.heap.size zeroE = w8 at HP ⊢
      obtain ⟨g0, -⟩ := HP.out.swap.got 0 _ rfl
      obtain ⟨g1, -⟩ := HP.out.swap.got 1 _ rfl
      obtain ⟨g2, -⟩ := HP.out.swap.got 2 _ rfl
      obtain ⟨g3, -⟩ := HP.out.swap.got 3 _ rfl
      obtain ⟨g4, -⟩ := HP.out.swap.got 4 _ rfl
      refine bodyPost_ret (v := .tuple #[ev zeroE, .bool false]) (by simp [results, Tryd.results24, go_sem, g0, g1, g2, g3, g4]) rfl ⟨by rw [HRE.out]; rfl, HP.out.2.2.2.2.2⟩
    | true =>
    cases b2 with
    | false =>
      go_wp2_with fail
      have HP := Shut.mk (HR.out.put zeroE)
      change bodyPost _ _ _ _ _ (put5 w7 w.heap.size zeroE)
      generalize put5 w7 w.heap.size zeroE = w8 at HP ⊢
      obtain ⟨g0, -⟩ := HP.out.swap.got 0 _ rfl
      obtain ⟨g1, -⟩ := HP.out.swap.got 1 _ rfl
      obtain ⟨g2, -⟩ := HP.out.swap.got 2 _ rfl
      obtain ⟨g3, -⟩ := HP.out.swap.got 3 _ rfl
      obtain ⟨g4, -⟩ := HP.out.swap.got 4 _ rfl
      refine bodyPost_ret (v := .tuple #[ev zeroE, .bool false]) (by simp [results, Tryd.results24, go_sem, g0, g1, g2, g3, g4]) rfl ⟨by rw [HRE.out]; rfl, HP.out.2.2.2.2.2⟩
    | true =>
    cases b3 with
    | false =>
      go_wp2_with fail
      have HP := Shut.mk (HR.out.put zeroE)
      change bodyPost _ _ _ _ _ (put5 w7 w.heap.size zeroE)
      generalize put5 w7 w.heap.size zeroE = w8 at HP ⊢
      obtain ⟨g0, -⟩ := HP.out.swap.got 0 _ rfl
      obtain ⟨g1, -⟩ := HP.out.swap.got 1 _ rfl
      obtain ⟨g2, -⟩ := HP.out.swap.got 2 _ rfl
      obtain ⟨g3, -⟩ := HP.out.swap.got 3 _ rfl
      obtain ⟨g4, -⟩ := HP.out.swap.got 4 _ rfl
      refine bodyPost_ret (v := .tuple #[ev zeroE, .bool false]) (by simp [results, Tryd.results24, go_sem, g0, g1, g2, g3, g4]) rfl ⟨by rw [HRE.out]; rfl, HP.out.2.2.2.2.2⟩
    | true =>
    cases b4 with
    | false =>
      go_wp2_with fail
      have HP := Shut.mk (HR.out.put zeroE)
      change bodyPost _ _ _ _ _ (put5 w7 w.heap.size zeroE)
      generalize put5 w7 w.heap.size zeroE = w8 at HP ⊢
      obtain ⟨g0, -⟩ := HP.out.swap.got 0 _ rfl
      obtain ⟨g1, -⟩ := HP.out.swap.got 1 _ rfl
      obtain ⟨g2, -⟩ := HP.out.swap.got 2 _ rfl
      obtain ⟨g3, -⟩ := HP.out.swap.got 3 _ rfl
      obtain ⟨g4, -⟩ := HP.out.swap.got 4 _ rfl
      refine bodyPost_ret (v := .tuple #[ev zeroE, .bool false]) (by simp [results, Tryd.results24, go_sem, g0, g1, g2, g3, g4]) rfl ⟨by rw [HRE.out]; rfl, HP.out.2.2.2.2.2⟩
    | true =>
    have hbt := HBT.out rfl
    by_cases hbk : BK = s
    · obtain ⟨c0, -⟩ := HR.out.got 0 _ rfl
      obtain ⟨c1, -⟩ := HR.out.got 1 _ rfl
      obtain ⟨c2, -⟩ := HR.out.got 2 _ rfl
      obtain ⟨c3, -⟩ := HR.out.got 3 _ rfl
      obtain ⟨c4, -⟩ := HR.out.got 4 _ rfl
      dsimp only at c0 c1 c2 c3 c4
      have HX := Shut.mk (hbt.symm.trans hbk)
      clear hbt
      subst hbk
      go_wp2_with fail
      have HP := Shut.mk (HR.out.put ⟨bt BK 0, path, dest, num, bt BK 1⟩)
      change bodyPost _ _ _ _ _ (put5 w7 w.heap.size ⟨bt BK 0, path, dest, num, bt BK 1⟩)
      generalize put5 w7 w.heap.size ⟨bt BK 0, path, dest, num, bt BK 1⟩ = w8 at HP ⊢
      obtain ⟨g0, -⟩ := HP.out.swap.got 0 _ rfl
      obtain ⟨g1, -⟩ := HP.out.swap.got 1 _ rfl
      obtain ⟨g2, -⟩ := HP.out.swap.got 2 _ rfl
      obtain ⟨g3, -⟩ := HP.out.swap.got 3 _ rfl
      obtain ⟨g4, -⟩ := HP.out.swap.got 4 _ rfl
      refine bodyPost_ret (v := .tuple #[ev ⟨bt BK 0, path, dest, num, bt BK 1⟩, .bool true]) (by simp [results, Tryd.results24, go_sem, g0, g1, g2, g3, g4]) rfl ⟨by rw [HRE.out, HX.out]; simp, HP.out.2.2.2.2.2⟩
    · have HX : Shut (decide (editT ⟨bt s 0, path, dest, num, bt s 1⟩ = s) = false) := ⟨decide_eq_false (fun h => hbk (hbt.trans h))⟩
      clear hbt
      have hne : (BK.toList == s.toList) = false := str_neE hbk
      have hne2 : (BK.toList != s.toList) = true := by rw [bne, hne]; rfl
      go_wp2_with fail
      have HP := Shut.mk (HR.out.put zeroE)
      change bodyPost _ _ _ _ _ (put5 w7 w.heap.size zeroE)
      generalize put5 w7 w.heap.size zeroE = w8 at HP ⊢
      obtain ⟨g0, -⟩ := HP.out.swap.got 0 _ rfl
      obtain ⟨g1, -⟩ := HP.out.swap.got 1 _ rfl
      obtain ⟨g2, -⟩ := HP.out.swap.got 2 _ rfl
      obtain ⟨g3, -⟩ := HP.out.swap.got 3 _ rfl
      obtain ⟨g4, -⟩ := HP.out.swap.got 4 _ rfl
      refine bodyPost_ret (v := .tuple #[ev zeroE, .bool false]) (by simp [results, Tryd.results24, go_sem, g0, g1, g2, g3, g4]) rfl ⟨by rw [HRE.out]; rw [HX.out]; rfl, HP.out.2.2.2.2.2⟩
end Go.Proofs.YtoglebfiobofoaaDoor
/- EcA: Rows of records, as cells. -/
namespace Go.Proofs.YtoglebfiobofoaaDoor
set_option maxRecDepth 100000
open Go.RowKit

/-- Records one behind the other, as cells. -/
def ecs (es : List EM) : List Value := es.flatMap ecells
theorem ecs_len (es : List EM) : (ecs es).length = es.length * 5 := flat_len ecells_len es
theorem ecs_at {w : World} {a : Option Addr} {es : List EM} {lo hi : Nat} (h : RRow w a (ecs es) lo hi) (hp : 0 < es.length) : ∃ b off, a = some ⟨b, off, none⟩ ∧ b < w.heap.size ∧ ∀ j (hj : j < es.length), w.cell? ⟨b, off + j * 5, none⟩ = some (.int .i64 es[j].kind) ∧ w.cell? ⟨b, off + j * 5 + 1, none⟩ = some (.string es[j].path) ∧ w.cell? ⟨b, off + j * 5 + 2, none⟩ = some (.string es[j].dest) ∧ w.cell? ⟨b, off + j * 5 + 3, none⟩ = some (.int .i64 es[j].num) ∧ w.cell? ⟨b, off + j * 5 + 4, none⟩ = some (.int .i64 es[j].who) := by
  obtain ⟨b, off, e, _, _, hb, hc⟩ := h (by rw [ecs_len]; omega)
  refine ⟨b, off, e, hb, fun j hj => ?_⟩
  have hg : ∀ i v, (ecells es[j])[i]? = some v → w.cell? ⟨b, off + j * 5 + i, none⟩ = some v := fun i v hv => by
    have hi : i < 5 := by have := (List.getElem?_eq_some_iff.1 hv).1; rw [ecells_len] at this; exact this
    have := hc (j * 5 + i) v ((flat_get ecells_len es j hj i hi).trans hv)
    rw [← Nat.add_assoc] at this
    exact this
  exact ⟨hg 0 _ rfl, hg 1 _ rfl, hg 2 _ rfl, hg 3 _ rfl, hg 4 _ rfl⟩
end Go.Proofs.YtoglebfiobofoaaDoor
/- LogM: The log, plain: the records of the frames that a file begins with, as long as they are ones, and the place behind the last of these. -/
namespace Go.Proofs.YtoglebfiobofoaaDoor
set_option maxRecDepth 100000
open Go.RowKit

def isRec (x : ByteArray × Nat) : Bool := (readE x.1).2
def logL (s : ByteArray) : List (ByteArray × Nat) := (W.framesOf s).takeWhile isRec
def recE (l : List (ByteArray × Nat)) : List EM := l.map fun x => (readE x.1).1
def logE (s : ByteArray) : List EM := recE (logL s)
def logAt (s : ByteArray) : Nat := W.endOf (logL s)
theorem recE_len (l : List (ByteArray × Nat)) : (recE l).length = l.length := by simp [recE]
theorem recE_snoc (l : List (ByteArray × Nat)) (x : ByteArray × Nat) : recE (l ++ [x]) = recE l ++ [(readE x.1).1] := by simp [recE]
theorem ecs_snoc (es : List EM) (e : EM) : ecs es ++ ecells e = ecs (es ++ [e]) := by simp [ecs]
theorem while_all {l : List (ByteArray × Nat)} (h : ∀ x ∈ l, isRec x = true) : l.takeWhile isRec = l := by
  induction l with
  | nil => rfl
  | cons x l ih =>
    rw [List.takeWhile_cons, if_pos (h x (List.mem_cons_self ..)), ih fun y hy => h y (List.mem_cons_of_mem _ hy)]
theorem while_stop {pre l : List (ByteArray × Nat)} {x : ByteArray × Nat} (h : ∀ x ∈ pre, isRec x = true) (hx : isRec x = false) : (pre ++ x :: l).takeWhile isRec = pre := by
  induction pre with
  | nil => rw [List.nil_append, List.takeWhile_cons, hx]; rfl
  | cons y pre ih =>
    rw [List.cons_append, List.takeWhile_cons, if_pos (h y (List.mem_cons_self ..)), ih fun z hz => h z (List.mem_cons_of_mem _ hz)]
theorem logL_len (s : ByteArray) : (logL s).length ≤ 20000 := Nat.le_trans (List.takeWhile_sublist isRec).length_le (W.framesOf_len s)
theorem logE_len (s : ByteArray) : (logE s).length ≤ 20000 := by unfold logE; rw [recE_len]; exact logL_len s
theorem frameB_size {s : ByteArray} {a : Nat} {r : ByteArray} {b : Nat} (h : W.frameAt s a = some (r, b)) : a + (frameB r).size = b := by
  have hb := W.frameAt_bounds h
  unfold W.frameAt at h
  split at h
  · cases h
  · rename_i n p hr
    split at h
    · rename_i hc
      obtain ⟨h1, h2, h3, h4⟩ := hc
      simp at h
      obtain ⟨rfl, rfl⟩ := h
      rw [(W.frame_bytes hr h3).2 h4]
      simp
      omega
    · cases h
/-- The place behind the last of some frames that begin at a place. -/
def endD (a : Nat) (l : List (ByteArray × Nat)) : Nat := (l.getLast?.map (·.2)).getD a
theorem frames_step (s : ByteArray) : ∀ (f a k : Nat) (h : k < (W.framesF s f a).length), endD a ((W.framesF s f a).take k) + (frameB ((W.framesF s f a)[k]).1).size = ((W.framesF s f a)[k]).2
  | 0, a, k, h => by simp [W.framesF] at h
  | f + 1, a, k, h => by
    by_cases ha : a < s.size
    · cases hf : W.frameAt s a with
      | none => rw [W.framesF, if_pos ha, hf] at h; simp at h
      | some x =>
        obtain ⟨r, b⟩ := x
        have e : W.framesF s (f + 1) a = (r, b) :: W.framesF s f b := by rw [W.framesF, if_pos ha, hf]
        simp only [e] at h ⊢
        cases k with
        | zero => simpa [endD] using frameB_size hf
        | succ k =>
          have := frames_step s f b k (by simpa using h)
          simp only [List.take_succ_cons, List.getElem_cons_succ]
          rw [← this]
          congr 1
          unfold endD
          cases ht : (W.framesF s f b).take k with
          | nil => rfl
          | cons y l => simp [List.getLast?_cons]
    · rw [W.framesF, if_neg ha] at h; simp at h
theorem frames_next (s : ByteArray) (k : Nat) (h : k < (W.framesOf s).length) : W.endOf ((W.framesOf s).take k) + (frameB ((W.framesOf s)[k]).1).size = ((W.framesOf s)[k]).2 := by
  by_cases hs : 20000 < s.size
  · have e : W.framesOf s = [] := by unfold W.framesOf; rw [if_pos hs]
    rw [e] at h
    simp at h
  · have e : W.framesOf s = W.framesF s (s.size - 0) 0 := by unfold W.framesOf; rw [if_neg hs]; rfl
    simp only [e] at h ⊢
    exact frames_step s _ 0 k h
theorem frames_rec (s : ByteArray) : ∀ (f a : Nat) (x : ByteArray × Nat), x ∈ W.framesF s f a → 1 ≤ x.1.size ∧ x.1.size ≤ 9000 ∧ x.2 ≤ s.size
  | 0, a, x, h => by simp [W.framesF] at h
  | f + 1, a, x, h => by
    rw [W.framesF] at h
    split at h
    · cases hf : W.frameAt s a with
      | none => rw [hf] at h; simp at h
      | some y =>
        obtain ⟨r, b⟩ := y
        rw [hf] at h
        have hb := W.frameAt_bounds hf
        simp only [List.mem_cons] at h
        rcases h with rfl | h
        · exact ⟨hb.2.2.1, hb.2.2.2, hb.2.1⟩
        · exact frames_rec s f b x h
    · simp at h
theorem framesOf_rec {s : ByteArray} {x : ByteArray × Nat} (h : x ∈ W.framesOf s) : 1 ≤ x.1.size ∧ x.1.size ≤ 9000 ∧ x.2 ≤ s.size := by
  unfold W.framesOf at h
  split at h
  · cases h
  · exact frames_rec s _ 0 x h
theorem logAt_le (s : ByteArray) : logAt s ≤ s.size := by
  unfold logAt W.endOf
  cases h : (logL s).getLast? with
  | none => exact Nat.zero_le _
  | some x =>
    have hm : x ∈ logL s := List.mem_of_getLast? h
    exact (framesOf_rec ((List.takeWhile_sublist isRec).subset hm)).2.2
/-- What a reader of a log answers, and where it lies. -/
def LogPost (s : ByteArray) (w : World) (e : Ending) (w' : World) : Prop :=
  ∃ v, e = .returned (.tuple #[v, .int .i64 (logAt s : Nat)]) ∧ w'.ownsRow w.heap.size 28 5 v (logE s).length (ecs (logE s)) ∧ Below w.heap.size w w'
theorem infoEditL : (Tryd.prog.info? 28).map (fun i => (i.zero, i.size, i.bytes)) = some (some (.agg #[.int .i64 0, .string ⟨#[]⟩, .string ⟨#[]⟩, .int .i64 0, .int .i64 0]), 5, 56) := by kernel_rfl
end Go.Proofs.YtoglebfiobofoaaDoor
/- LogS: The model's ReadLog. -/
namespace Go.Proofs.YtoglebfiobofoaaDoor
set_option maxRecDepth 100000
open Go.RowKit BigFrame
attribute [local go_sem ↓] Go.wp_at_zero Go.wp_at_succ

theorem WRow.grown9 {w w' : World} {g : Nat} {xs : List ByteArray} {row : Option Nat} (h : WRow w g xs) (hg : w.grownBy w' row) (hr : row ≠ some g) : WRow w' g xs := by
  have hblk := hg.block g h.1 (fun e => hr e.symm)
  refine ⟨Nat.lt_of_lt_of_le h.1 hg.size, fun j hj => ⟨?_, ?_⟩⟩
  · rw [World.cell?_of_block (w := w) hblk]; exact (h.2 j hj).1
  · rw [World.frozen?_of_block (w := w) hblk]; exact (h.2 j hj).2
/-- While a log is read: the records that are told, the texts of the frames. -/
structure LS (w w1 wr : World) (v : Value) (a : Option Addr) (xs : List ByteArray) (es : List EM) : Prop where
  own : wr.ownsRow w.heap.size 28 5 v es.length (ecs es)
  far : ∀ q, v.ownBlock = some q → q = w.heap.size ∨ w1.heap.size ≤ q
  row : xs = [] ∨ ∃ g, a = some ⟨g, 0, none⟩ ∧ w.heap.size < g ∧ g < w1.heap.size ∧ WRow wr g xs
  bel : Below w.heap.size w wr
  siz : w1.heap.size ≤ wr.heap.size
theorem LS.below {w w1 wr w' : World} {v : Value} {a : Option Addr} {xs : List ByteArray} {es : List EM} (h : LS w w1 wr v a xs es) (hb : Below wr.heap.size wr w') : LS w w1 w' v a xs es :=
  ⟨h.own.kept (row := none) ⟨hb.os, hb.tape, hb.output, hb.size, fun k hk _ => hb.block k hk⟩ (Classical.em _), h.far, h.row.imp id fun ⟨g, h1, h2, h3, h4⟩ => ⟨g, h1, h2, h3, h4.below hb h4.1⟩, h.bel.trans (hb.mono h.bel.size), Nat.le_trans h.siz hb.size⟩
theorem LS.alloc {w w1 wr : World} {v : Value} {a : Option Addr} {xs : List ByteArray} {es : List EM} (h : LS w w1 wr v a xs es) (o : Obj) : LS w w1 (wr.alloc o) v a xs es := h.below ((Below.refl _ _).alloc (Nat.le_refl _) o)
theorem LS.more {w w1 wr wa w' : World} {v v' : Value} {a : Option Addr} {xs : List ByteArray} {es : List EM} {X : EM} (h : LS w w1 wr v a xs es) (ha : Below wr.heap.size wr wa) (ho : w'.ownsRow w.heap.size 28 5 v' (es.length + 1) (ecs es ++ ecells X)) (hg : wa.grownBy w' v.ownBlock) (hat : v'.ownBlock = v.ownBlock ∨ v'.ownBlock = some wa.heap.size) : LS w w1 w' v' a xs (es ++ [X]) := by
  have h2 := h.below ha
  refine ⟨?_, ?_, ?_, h2.bel.grown hg h2.bel.size fun q e => ?_, Nat.le_trans h2.siz hg.size⟩
  · rw [List.length_append, ← ecs_snoc]; exact ho
  · intro q e
    rcases hat with e2 | e2
    · exact h.far q (by rw [← e2]; exact e)
    · rw [e2] at e; cases e; exact .inr h2.siz
  · rcases h2.row with e | ⟨g, h3, h4, h5, h6⟩
    · exact .inl e
    · exact .inr ⟨g, h3, h4, h5, h6.grown9 hg fun e => by rcases h.far g e with e | e <;> omega⟩
  · rcases h.far q e with e | e
    · omega
    · have := h.bel.size; have := h.own.lt q (by assumption); omega
set_option maxHeartbeats 2000000 in
theorem specReadLog (s : ByteArray) (w : World) (hs : s.size ≤ 1048576) : Calls Tryd.prog 12 #[.string s] w fun e w' => LogPost s w e w' := by
  obtain ⟨i0, hin, hz0, hz1, hz2⟩ := info_parts infoEditL
  have HU := Shut.mk (fun (W0 : World) => specUnframe s W0 hs)
  unfold UnfPost at HU
  have HL := Shut.mk (W.framesOf_len s)
  have HN := Shut.mk (frames_next s)
  have HR := Shut.mk (fun x (h : x ∈ W.framesOf s) => framesOf_rec h)
  have HP : Shut (∀ e w', LogPost s w e w' ↔ ∃ v, e = .returned (.tuple #[v, .int .i64 (W.endOf ((W.framesOf s).takeWhile isRec) : Nat)]) ∧ w'.ownsRow w.heap.size 28 5 v (recE ((W.framesOf s).takeWhile isRec)).length (ecs (recE ((W.framesOf s).takeWhile isRec))) ∧ Below w.heap.size w w') := ⟨fun _ _ => Iff.rfl⟩
  generalize W.framesOf s = X at *
  obtain ⟨n, hn⟩ : ∃ n, n = X.length := ⟨_, rfl⟩
  have hrl : (W.recsOf X).length = n := by rw [W.recsOf_len]; exact hn.symm
  rw [hrl] at HU
  have HLn := Shut.mk hn
  have hn9 : n ≤ 20000 := by rw [hn]; exact HL.out
  clear hn hrl HL
  have hO := World.ownsRow_made (e := 28) (size := 5) (base := w.heap.size) w #[] 0 (Nat.le_refl _) (by decide) rfl
  have HO := Shut.mk hO
  clear hO
  go_enter Tryd.func12, Tryd.ntmps12
  go_wp2_with fail
  refine (HU.out _).mono ?_
  rintro e w1 ⟨a, cap, rfl, hr, hb⟩
  have H0 : Shut (LS w w1 w1 (.slice (some ⟨w.heap.size, 0, none⟩) 0 0) a (W.recsOf X) []) := ⟨by
    have hb0 : Below w.heap.size w (w.alloc (.cells #[] 28)) := (Below.refl _ _).alloc (Nat.le_refl _) _
    refine ⟨HO.out.kept (row := none) ⟨hb.os, hb.tape, hb.output, hb.size, fun k hk _ => hb.block k hk⟩ (Classical.em _), fun q e => .inl (by simp [Value.ownBlock] at e; exact e.symm), ?_, hb0.trans (hb.mono hb0.size), Nat.le_refl _⟩
    rcases hr.2 with e | ⟨g, e, h1, h2⟩
    · exact .inl e
    · exact .inr ⟨g, e, by simp at h1; omega, h2.1, h2⟩⟩
  clear hr hb HO
  go_wp2_with fail
  go_loopw [4, 5, 8] (fun v c i wr => ∃ (k : Nat) (vv : Value), vv = v ∧ i = .int .i64 k ∧ c = .int .i64 (W.endOf (X.take k) : Nat) ∧ k ≤ n ∧ Shut ((∀ x ∈ X.take k, isRec x = true) ∧ LS w w1 wr vv a (W.recsOf X) (recE (X.take k)))) (fun _ _ i _ => n - (intOf i).toNat)
  case atStart => exact ⟨0, _, rfl, rfl, rfl, Nat.zero_le _, ⟨⟨by simp, H0.out⟩⟩⟩
  case round =>
    obtain ⟨k, vv, rfl, rfl, rfl, hk, hS⟩ := hrel
    have hkl : (recE (X.take k)).length = k := by rw [recE_len, List.length_take]; have := HLn.out; omega
    have HKL := Shut.mk hkl
    clear H0 hkl
    by_cases hlt : k < n
    · have hx : k < X.length := by have := HLn.out; omega
      obtain ⟨x, hxe⟩ : ∃ x, x = X[k] := ⟨_, rfl⟩
      have hrx := HR.out x (by rw [hxe]; exact List.getElem_mem hx)
      have HNK : Shut (W.endOf (X.take k) + (frameB x.1).size = x.2) := ⟨by rw [hxe]; exact HN.out k hx⟩
      have HTK : Shut (X.take (k + 1) = X.take k ++ [x]) := ⟨by rw [hxe]; exact List.take_succ_eq_append_getElem hx⟩
      have HDR : Shut (X = X.take k ++ x :: X.drop (k + 1)) := ⟨by rw [hxe, ← List.drop_eq_getElem_cons hx, List.take_append_drop]⟩
      obtain ⟨r, b⟩ := x
      dsimp only at hrx HNK
      obtain ⟨hr1, hr2, hr3⟩ := hrx
      rcases hS.out.2.row with e0 | ⟨g, rfl, hg1, hg2, hwr⟩
      · exfalso
        have := congrArg List.length e0
        rw [W.recsOf_len] at this
        simp at this
        have := HLn.out
        simp_all
      have hck : wr.cell? ⟨g, k, none⟩ = some (.string r) := by
        have := (hwr.2 k (by rw [W.recsOf_len]; exact hx)).1
        rw [this]
        unfold W.recsOf
        simp [List.getD, hx, ← hxe]
      have k0 : (0 : Int) ≤ (k : Int) := by omega
      have k1 : (k : Int) < (n : Int) := by omega
      have hfr := specReadEdit r
      generalize hre : readE r = re at hfr
      have HRE := Shut.mk hre
      have HFR := Shut.mk hfr
      obtain ⟨X1, ok⟩ := re
      dsimp only at HFR
      clear hxe hx hfr hre hwr
      go_upto_region 8 with (go_at_call 24; refine (HFR.out _ (by omega)).mono ?_; rintro e w2 ⟨rfl, hb2⟩)
      have hcs : WCells (w2.alloc (.cells #[.int .i64 X1.kind, .string X1.path, .string X1.dest, .int .i64 X1.num, .int .i64 X1.who] 28)) w2.heap.size (ecells X1) := wcells_new w2 _ _
      refine wp_shade (fun W' => WCells W' w2.heap.size (ecells X1) ∧ LS w w1 W' vv (some ⟨g, 0, none⟩) (W.recsOf X) (recE (X.take k)) ∧ W'.cell? ⟨g, k, none⟩ = some (.string r)) ⟨hcs, (hS.out.2.below hb2).alloc _, by rw [World.cell?_alloc_lt _ _ _ (Nat.lt_of_lt_of_le (cell_ltE hck) hb2.size), hb2.cell (cell_ltE hck)]; exact hck⟩ ?_
      rintro W3 ⟨hc3, hL3, hk3⟩
      have HA := Shut.mk hS.out.1
      clear hcs hck hS
      have HC3 := Shut.mk hc3
      have HL3 := Shut.mk hL3
      have hfb := specFrame r
      rw [frV_yes ⟨hr1, hr2⟩] at hfb
      have HFB := Shut.mk hfb
      clear hfb hL3 hc3
      cases ok with
      | false =>
        have HE : Shut (X.takeWhile isRec = X.take k) := ⟨by
          have hd := HDR.out
          have : isRec (r, b) = false := by unfold isRec; rw [HRE.out]
          rw [congrArg (List.takeWhile isRec) hd, while_stop HA.out this]⟩
        go_wp2_with fail
        go_ret2
        refine (HP.out _ _).2 ?_
        rw [HE.out, HKL.out]
        exact ⟨_, rfl, by have := HL3.out.own; rw [HKL.out] at this; exact this, HL3.out.bel⟩
      | true =>
        have hir : isRec (r, b) = true := by unfold isRec; rw [HRE.out]
        go_upto_region 11 with (go_at_call 18; refine (HFB.out _).mono ?_; rintro e w4 ⟨rfl, hb4⟩)
        have HC4 := Shut.mk (HC3.out.grow hb4)
        have HL4 := Shut.mk (HL3.out.below hb4)
        clear HC3 HL3 hb4 hb2 hk3
        have b0 := (HC4.out.2 0 _ rfl).1
        have b1 := (HC4.out.2 1 _ rfl).1
        have b2 := (HC4.out.2 2 _ rfl).1
        have b3 := (HC4.out.2 3 _ rfl).1
        have b4 := (HC4.out.2 4 _ rfl).1
        have hown := HL4.out.own
        rw [HKL.out] at hown
        have hbs := HL4.out.bel.size
        obtain ⟨at0, hat0⟩ : ∃ q, q = W.endOf (X.take k) := ⟨_, rfl⟩
        obtain ⟨fz, hfz⟩ : ∃ q, q = (frameB r).size := ⟨_, rfl⟩
        have hnx : at0 + fz = b := by rw [hat0, hfz]; exact HNK.out
        have HAT := Shut.mk hat0
        rw [← hat0]
        clear hat0
        go_wp2_with (at_builtin; refine wpList_append_own_at _ rfl _ _ 33 rfl w.heap.size 28 i0 _ 5 56 Tryd.underlying33 hin hz0 hz1 hz2 rfl (by decide) _ _ _ rfl (hown.alloc _) ⟨w4.heap.size, 0, none⟩ 1 1 [.int .i64 X1.kind, .string X1.path, .string X1.dest, .int .i64 X1.num, .int .i64 X1.who] rfl rfl (World.news_of_block (cs := #[.int .i64 X1.kind, .string X1.path, .string X1.dest, .int .i64 X1.num, .int .i64 X1.who]) (t := 28) (fr := (0, 0)) (heap_alloc_new w4 _)) ?c2 ?c3 ?c4 ?c5 ?_)
        case c2 => simp [Value.oneCell']
        case c3 => unfold maxLen; omega
        case c4 => omega
        case c5 => simp; omega
        intro v5 w5 hown5 hgrow5 _ hat5
        have HL5 := Shut.mk (HL4.out.more (X := X1) ((Below.refl _ _).alloc (Nat.le_refl _) _) (by rw [HKL.out]; exact hown5) hgrow5 (by simpa using hat5))
        clear hown5 hgrow5 hat5 hown b0 b1 b2 b3 b4
        have HSZ := Shut.mk hfz
        clear hfz
        have hz' : (frameB r).size = fz := HSZ.out.symm
        go_wp2_with fail
        go_roundw
        case rel =>
          refine ⟨k + 1, v5, rfl, by go_num, congrArg (Value.int .i64) ?_, by omega, ⟨⟨?_, ?_⟩⟩⟩
          · rw [HTK.out, W.endOf_snoc]; omega
          · rw [HTK.out]
            intro x hx
            rcases List.mem_append.1 hx with hx | hx
            · exact HA.out x hx
            · rw [List.mem_singleton.1 hx]; exact hir
          · rw [HTK.out, recE_snoc]
            have : (readE (r, b).1).1 = X1 := by rw [HRE.out]
            rw [this]
            exact HL5.out
        case measure => simp [intOf]; omega
    · have e : k = n := by omega
      subst e
      have HE : Shut (X.takeWhile isRec = X.take k) := ⟨by
        have e2 : X.take k = X := List.take_of_length_le (by have := HLn.out; omega)
        rw [e2]
        have := hS.out.1
        rw [e2] at this
        exact while_all this⟩
      go_wp2_with fail
      go_ret2
      refine (HP.out _ _).2 ?_
      rw [HE.out, HKL.out]
      exact ⟨_, rfl, by have := hS.out.2.own; rw [HKL.out] at this; exact this, hS.out.2.bel⟩
end Go.Proofs.YtoglebfiobofoaaDoor
/- FrV: A range over a function that is bound to its receiver, whose body goes on or breaks off: a law of our own, over the same steps of the machine as the guide's, at the wide fence. -/
namespace Go.Proofs.YtoglebfiobofoaaDoor
set_option maxRecDepth 100000
open Go.RowKit

/-- What a body owes: what is no cells lies as it lay; what lay below B too; it goes on, or it breaks off. -/
def GoesOr {α : Type} (B id : Nat) (I Ix : List α → World → Prop) (xs : List α) (W : World) : Exit → Act → World → Prop := fun e _ W' => KeepsOthers W W' ∧ Below B W W' ∧ ((e = .normal ∧ I xs W') ∨ (e = .exit id ∧ Ix xs W'))
/-- What a round of such a body owes to the function that is handed yield. -/
def RoundOr (P : Program) {α : Type} (n l B : Nat) (encs : α → Array Value) (J Jx : List α → World → Prop) (xs : List α) : Prop :=
  ∀ pre x post W, xs = pre ++ x :: post → J pre W → YieldAt Fence.wide n P l (encs x) W fun e W' => Below B W W' ∧ ((e = .returned (.bool true) ∧ J (pre ++ [x]) W') ∨ (e = .returned (.bool false) ∧ Jx (pre ++ [x]) W'))

theorem keeps_other {W : World} {k l : Nat} {o o' : Obj} (h : W.heap[k]? = some o) (hne : l ≠ k) : (W.putObj l o').heap[k]? = some o := (World.putObj_heap_other (Ne.symm hne)).trans h
theorem below_put {B : Nat} {W : World} {l : Nat} (o' : Obj) (hl : l < W.heap.size) (hB : B ≤ l) : Below B W (W.putObj l o') :=
  (Below.refl B W).grown (grownBy_putObj' W l o') (by omega) (fun k e => by cases e; exact hB)

theorem range_or {P : Program} {α : Type} {n id : Nat} {g : Operand} {ps : Array Tmp} {assign body : Code} {Q : Exit → Act → World → Prop} {a : Act} {w : World} {gf : Nat} {r : Value} {encs : α → Array Value} {B : Nat} (xs : List α)
    (hg : a.eval g = .func (.func gf) #[r] #[]) (eg : ∀ args w, (callFunc gf args).run P w = .ok (.enter gf args) w) (hps : ∀ x, (encs x).size = ps.size) (hB : B ≤ w.heap.size)
    (I Ix : List α → World → Prop) (hI : OwnFrom w.heap.size I) (hX : OwnFrom w.heap.size Ix) (h0 : I [] w) (a₁ : α → Act)
    (hassign : ∀ (l : Nat) (x : α) (W : World) (K : Act → World → Prop), K (a₁ x) W → assign.wpIn (Fence.wide.inRound l) (n - 1 - 1) P (Exit.then K (fun _ _ _ => False)) { tmps := (ps.zip (encs x)).foldl (fun t (p, v) => t.setIfInBounds p v) a.tmps, defers := [] } W)
    (hbody : ∀ (l : Nat) (pre : List α) (x : α) (post : List α) (W : World), xs = pre ++ x :: post → I pre W → body.wpIn (Fence.wide.inRound l) (n - 1 - 1) P (GoesOr B id I Ix (pre ++ [x]) W) (a₁ x) W)
    (hseq : ∀ (l : Nat) (J Jx : List α → World → Prop) (W : World), Below w.heap.size w W → (∀ s X Y, J s X → X.grownBy Y none → J s Y) → RoundOr P (n - 1 - 1) l B encs J Jx xs → J [] W → CallsIn Fence.wide (n - 1) P gf #[r, .func (.yield l) #[] #[]] W fun e W' => (∃ v, e = .returned v) ∧ (J xs W' ∨ ∃ pre, Jx pre W'))
    (hdone : ∀ (D : Nat) (W : World), w.heap.size ≤ D → I xs W → W.heap[D]? = some (.deferred (some [])) → Q .normal { a with defers := { target := .collected D, args := #[] } :: a.defers } W)
    (hstop : ∀ (D : Nat) (pre : List α) (W : World), w.heap.size ≤ D → Ix pre W → W.heap[D]? = some (.deferred (some [])) → (Code.exit id).wpIn Fence.wide n P Q { a with defers := { target := .collected D, args := #[] } :: a.defers } W) :
    (Code.rangeFunc g ps assign body).wpIn Fence.wide n P Q a w := by
  apply wpIn_rangeFunc
  intro fn hfn
  let lp : LoopState → Option Code → Loop := fun st pe => { state := st, pending := pe, fn, tmps := a.tmps, params := ps, assign, body, defers := w.heap.size }
  let D := w.heap.size
  let l := w.heap.size + 1
  obtain ⟨V, hV⟩ : ∃ V, V = (w.alloc (.deferred (some []))).alloc (.loop (lp .ready none)) := ⟨_, rfl⟩
  have gV : w.grownBy V none := by
    have := ((Below.refl w.heap.size w).alloc (Nat.le_refl _) (.deferred (some []))).alloc (by simp) (.loop (lp .ready none))
    rw [hV]; exact ⟨this.os, this.tape, this.output, this.size, fun k hk _ => this.block k hk⟩
  have vl : V.heap[l]? = some (.loop (lp .ready none)) := by
    have := World.alloc_heap_new (w.alloc (.deferred (some []))) (.loop (lp .ready none))
    rw [World.size_alloc] at this
    rw [hV]; exact this
  have vD : V.heap[D]? = some (.deferred (some [])) := by
    rw [hV]; exact (Below.heap_alloc _ _ _ (by simp [D])).trans (World.alloc_heap_new w _)
  refine ⟨l, _, V, { target := .fn (.func gf) #[], args := #[r, .func (.yield l) #[] #[]] }, V, gf, #[r, .func (.yield l) #[] #[]], V, (by rw [hV]; exact run_enterLoop_outer _ _ _ _ _), ?_, fun _ _ => trivial, (by simp [invoke, go_sem, eg]), (fun h => by cases h), ?_⟩
  · simp only [resolve, hg]
    simp [go_sem]
  let J : List α → World → Prop := fun pre W => I pre W ∧ W.heap[l]? = some (.loop (lp .ready none)) ∧ W.heap[D]? = some (.deferred (some []))
  let Jx : List α → World → Prop := fun pre W => Ix pre W ∧ W.heap[l]? = some (.loop (lp .done (some (.exit id)))) ∧ W.heap[D]? = some (.deferred (some []))
  have hJ : ∀ s X Y, J s X → X.grownBy Y none → J s Y := fun s X Y ⟨h1, h2, h3⟩ hg' =>
    ⟨hI s X Y none h1 hg' (fun _ e => by cases e), (hg'.block l (Array.getElem?_eq_some_iff.1 h2).1 (by simp)).trans h2, (hg'.block D (Array.getElem?_eq_some_iff.1 h3).1 (by simp)).trans h3⟩
  have hround : RoundOr P (n - 1 - 1) l B encs J Jx xs := by
    rintro pre x post W hxs ⟨hi, hl, hd⟩
    have hlt := (Array.getElem?_eq_some_iff.1 hl).1
    refine ⟨fn, _, assign, body, run_yield hl (hps x), roundIn_of_wpIn hfn (hassign l x W _ ⟨_, run_beginRound hl rfl, ?_⟩)⟩
    obtain ⟨X, hX'⟩ : ∃ X, X = W.putObj l (.loop (lp .busy none)) := ⟨_, rfl⟩
    have xl : X.heap[l]? = some (.loop (lp .busy none)) := by rw [hX']; exact World.putObj_heap_same hlt
    have xD : X.heap[D]? = some (.deferred (some [])) := by rw [hX']; exact keeps_other hd (by simp [l, D])
    have xI : I pre X := by rw [hX']; exact hI.putObj _ hi (by simp [l]) hl rfl
    have xB : Below B W X := by rw [hX']; exact below_put _ hlt (by simp only [l]; omega)
    show body.wpIn _ _ _ _ _ (W.putObj l (.loop (lp .busy none)))
    rw [← hX']
    refine wpIn_mono (hbody l pre x post X hxs xI) ?_
    rintro e a3 Y ⟨hk, hb, hor⟩
    have yl := hk.same _ _ xl rfl
    have yD := hk.same _ _ xD rfl
    have ylt := (Array.getElem?_eq_some_iff.1 yl).1
    have hB3 : ∀ o', Below B W (Y.putObj l o') := fun o' => (xB.trans hb).trans (below_put _ ylt (by simp only [l]; omega))
    rcases hor with ⟨rfl, hiY⟩ | ⟨rfl, hiY⟩
    · exact ⟨_, _, run_endRound none yl, hB3 _, .inl ⟨rfl, hI.putObj _ hiY (by simp [l]) yl rfl, World.putObj_heap_same ylt, keeps_other yD (by simp [l, D])⟩⟩
    · exact ⟨_, _, run_endRound (some (.exit id)) yl, hB3 _, .inr ⟨rfl, hX.putObj _ hiY (by simp [l]) yl rfl, World.putObj_heap_same ylt, keeps_other yD (by simp [l, D])⟩⟩
  refine (hseq l J Jx V ⟨gV.os, gV.tape, gV.output, gV.size, fun k hk => gV.block k hk (by simp)⟩ hJ hround ⟨hI [] w V none h0 gV (fun _ e => by cases e), vl, vD⟩).mono ?_
  rintro e W2 ⟨⟨v, rfl⟩, ⟨hi, hl, hd⟩ | ⟨pre, hi, hl, hd⟩⟩
  · exact ⟨none, _, run_endLoop hl (by simp [lp]), hdone D _ (Nat.le_refl _) (hI.putObj _ hi (by simp [l]) hl rfl) (keeps_other hd (by simp [l, D]))⟩
  · exact ⟨some (.exit id), _, run_endLoop hl (by simp [lp]), hstop D pre _ (Nat.le_refl _) (hX.putObj _ hi (by simp [l]) hl rfl) (keeps_other hd (by simp [l, D]))⟩
end Go.Proofs.YtoglebfiobofoaaDoor
/- FrW: The walk of the program's own reader of frames, which is handed a yield that may break it off. -/
namespace Go.Proofs.YtoglebfiobofoaaDoor
set_option maxRecDepth 100000
open Go.RowKit Go.Shelf
attribute [local go_sem] Oper.semAt_some

/-- What yield is handed. -/
def frEnc (x : ByteArray × Nat) : Array Value := #[.string x.1, .int .i64 (x.2 : Int)]
theorem faV_none : faV none = .tuple #[.string ⟨#[]⟩, .int .i64 0, .bool false] := rfl
theorem faV_some (r : ByteArray) (b : Nat) : faV (some (r, b)) = .tuple #[.string r, .int .i64 (b : Int), .bool true] := rfl
theorem grown_of {w w' : World} (h : Below w.heap.size w w') : w.grownBy w' none := ⟨h.os, h.tape, h.output, h.size, fun k hk _ => h.block k hk⟩

set_option maxRecDepth 100000 in
set_option maxHeartbeats 2000000 in
theorem frames_or (s : ByteArray) (w0 : World) (ht : SumTab w0) (m l : Nat) (J Jx : List (ByteArray × Nat) → World → Prop) (hJ : ∀ p X Y, J p X → X.grownBy Y none → J p Y)
    (hY : RoundOr Tryd.prog (m - 1) l w0.heap.size frEnc J Jx (W.framesOf s)) (W0 : World) (hW : Below w0.heap.size w0 W0) (h0 : J [] W0) :
    CallsIn Fence.wide m Tryd.prog 39 #[.string s, .func (.yield l) #[] #[]] W0 fun e W' => (∃ v, e = .returned v) ∧ (J (W.framesOf s) W' ∨ ∃ pre, Jx pre W') := by
  have HT : Hid (SumTab w0) := ht
  have HJ : Hid _ := hJ
  have HY : Hid _ := hY
  clear ht hJ hY
  by_cases hl : 20000 < s.size
  · have hl' : (20000 : Int) < (s.size : Int) := by omega
    have e0 : W.framesOf s = [] := by unfold W.framesOf; rw [if_pos hl]
    rw [e0]
    refine callsIn_of_wp Tryd.func39 rfl trivial ?_ rfl
    simp only [Tryd.ntmps39, List.size_toArray, List.length_cons, List.length_nil, Nat.reduceAdd, Nat.reduceSub, Array.replicate_succ, Array.replicate_zero, List.push_toArray, List.append_toArray, List.nil_append, List.cons_append]
    gi_wp2
    refine bodyPost_ret (results_none rfl _ _ _) rfl ?_
    exact ⟨⟨_, rfl⟩, .inl h0⟩
  · have hl' : ¬ (20000 : Int) < (s.size : Int) := by omega
    have e0 : W.framesOf s = W.framesFrom s 0 := by unfold W.framesOf; rw [if_neg hl]
    have HE : Hid _ := e0
    clear e0
    refine callsIn_of_wp Tryd.func39 rfl trivial ?_ rfl
    simp only [Tryd.ntmps39, List.size_toArray, List.length_cons, List.length_nil, Nat.reduceAdd, Nat.reduceSub, Array.replicate_succ, Array.replicate_zero, List.push_toArray, List.append_toArray, List.nil_append, List.cons_append]
    gi_wp2
    gi_loopw [4] (fun i wr => ∃ (a : Nat) (pre : List (ByteArray × Nat)), i = .int .i64 a ∧ a ≤ s.size ∧ W.framesOf s = pre ++ W.framesFrom s a ∧ J pre wr ∧ Below w0.heap.size w0 wr) (fun i _ => s.size - (intOf i).toNat)
    case atStart => exact ⟨0, [], rfl, Nat.zero_le _, HE.out, h0, hW⟩
    case round =>
      obtain ⟨a, pre, rfl, hle, hall, hj, hb⟩ := hrel
      have HA : Hid _ := hall
      clear hall
      by_cases hlt : a < s.size
      · have a1 : (a : Int) < (s.size : Int) := by omega
        cases hf : W.frameAt s a with
        | none =>
          have HN : Hid (W.framesOf s = pre) := by have := HA.out; rw [W.framesFrom_none hf, List.append_nil] at this; exact this
          have hc := implFrameAt s a wr (HT.out.stays hb) (by omega) hle
          rw [hf, faV_none] at hc
          have hc' := callsIn_wide (n := m - 1).2 hc
          clear hc hf
          gi_wp2_with (refine ⟨trivial, (fun h => by cases h), ?_⟩; gi_at_call 48; refine hc'.mono ?_; clear hc'; rintro e w1 ⟨rfl, hb1⟩)
          refine ⟨fun _ h => (by cases h), ?_⟩
          gi_wp2
          refine bodyPost_ret (results_none rfl _ _ _) rfl ?_
          exact ⟨⟨_, rfl⟩, .inl (by rw [HN.out]; exact HJ.out _ _ _ hj (grown_of hb1))⟩
        | some x =>
          obtain ⟨r, b⟩ := x
          have hbd := W.frameAt_bounds hf
          obtain ⟨hbd1, hbd2, hbd3, hbd4⟩ := hbd
          have hn : W.framesOf s = (pre ++ [(r, b)]) ++ W.framesFrom s b := by have := HA.out; rw [W.framesFrom_some hf] at this; rw [this]; simp
          have HN : Hid _ := hn
          clear hn
          have hxs : W.framesOf s = pre ++ (r, b) :: W.framesFrom s b := by rw [HN.out]; simp
          have hc := implFrameAt s a wr (HT.out.stays hb) (by omega) hle
          rw [hf, faV_some] at hc
          have hc' := callsIn_wide (n := m - 1).2 hc
          clear hc hf
          gi_wp2_with (refine ⟨trivial, (fun h => by cases h), ?_⟩; gi_at_call 48; refine hc'.mono ?_; clear hc'; rintro e w1 ⟨rfl, hb1⟩; obtain ⟨fn, tmps, assign, body, hy, hR⟩ := HY.out pre (r, b) _ w1 hxs (HJ.out _ _ _ hj (grown_of hb1)); dsimp only [frEnc] at hy)
          refine ⟨(fun h => by cases h), hR.mono ?_⟩
          rintro e w2 ⟨hb2, ⟨rfl, hj2⟩ | ⟨rfl, hj2⟩⟩
          · gi_wp2
            go_roundw
            case rel => exact ⟨b, pre ++ [(r, b)], rfl, hbd2, HN.out, hj2, (hb.trans (hb1.mono hb.size)).trans hb2⟩
            case measure => simp [intOf]; omega
          · gi_wp2
            refine bodyPost_ret (results_none rfl _ _ _) rfl ?_
            exact ⟨⟨_, rfl⟩, .inr ⟨_, hj2⟩⟩
      · have a1 : ¬ (a : Int) < (s.size : Int) := by omega
        have HN : Hid (W.framesOf s = pre) := by have := HA.out; rw [W.framesFrom_over (by omega), List.append_nil] at this; exact this
        gi_wp2
        go_end0
        exact ⟨⟨_, rfl⟩, .inl (by rw [HN.out]; exact hj)⟩
end Go.Proofs.YtoglebfiobofoaaDoor
/- OpenM: Rows of numbers, of rows of numbers, and of texts, that came in. -/
namespace Go.Proofs.YtoglebfiobofoaaDoor
set_option maxRecDepth 100000
open Go.RowKit Go.Deep Go.ChangeShapes Go.WideShapes

theorem cells_int : Tryd.prog.cellsOf 3 = 1 := by kernel_rfl
theorem cells_str : Tryd.prog.cellsOf 9 = 1 := by kernel_rfl
/-- A row out of its elements. -/
theorem rows_from {α : Type} [Inhabited α] {en : α → List Value} {sz : Nat} (hsz : ∀ x, (en x).length = sz) (hp0 : 0 < sz) {W : World} {ad : Addr} {len : Nat} {Pr : α → Prop}
    (each : ∀ i, i < len → ∃ f : α, (∀ r v, (en f)[r]? = some v → W.cell? (ad.add (i * sz + r)) = some v) ∧ Pr f) : ∃ xs : List α, xs.length = len ∧ CRow W (some ad) (xs.flatMap en) ∧ ∀ f ∈ xs, Pr f := by
  obtain ⟨F, hF⟩ := choose_lt each
  have hlen : ((List.range len).map F).length = len := by simp
  have hget : ∀ j (hj : j < ((List.range len).map F).length), ((List.range len).map F)[j] = F j := by intro j hj; simp
  refine ⟨(List.range len).map F, hlen, ?_, ?_⟩
  · intro hp
    rw [flat_len hsz, hlen] at hp
    have hl0 : 0 < len := Nat.pos_of_ne_zero fun e => by rw [e] at hp; simp at hp
    have h00 : ∃ v, (en (F 0))[0]? = some v := by
      have : 0 < (en (F 0)).length := by rw [hsz]; exact hp0
      exact ⟨_, List.getElem?_eq_getElem this⟩
    obtain ⟨v0, hv0⟩ := h00
    have c0 := (hF 0 hl0).1 0 v0 hv0
    have hs : ad.spot = none := by
      have := World.cell?_spot c0
      simpa [Addr.add] using this
    obtain ⟨b, off, spot⟩ := ad
    simp only at hs
    subst hs
    have hadd : ∀ i, (⟨b, off, none⟩ : Addr).add i = ⟨b, off + i, none⟩ := by intro i; cases i <;> simp [Addr.add]
    refine ⟨b, off, rfl, ?_, fun i v hv => ?_⟩
    · by_cases hb : b < W.heap.size
      · exact hb
      · unfold World.cell? at c0
        rw [hadd, Array.getElem?_eq_none (by simpa using hb)] at c0
        simp at c0
    · have hi : i < (((List.range len).map F).flatMap en).length := (List.getElem?_eq_some_iff.1 hv).1
      rw [flat_len hsz, hlen] at hi
      have hq : i / sz < len := Nat.div_lt_of_lt_mul (by rwa [Nat.mul_comm] at hi)
      have hr := Nat.mod_lt i hp0
      have ei : i = i / sz * sz + i % sz := by rw [Nat.mul_comm]; exact (Nat.div_add_mod i sz).symm
      have hj : i / sz < ((List.range len).map F).length := by rw [hlen]; exact hq
      have l1 := flat_get hsz ((List.range len).map F) (i / sz) hj (i % sz) hr
      rw [hget _ hj, ← ei] at l1
      have := (hF (i / sz) hq).1 (i % sz) v (by rw [← l1]; exact hv)
      rw [← ei, hadd] at this
      exact this
  · intro f hf
    obtain ⟨j, hj, rfl⟩ := List.mem_map.1 hf
    exact (hF j (by simpa using hj)).2
theorem ics_flats (xs : List Int) : ics xs = xs.flatMap fun x => [.int .i64 x] := by
  unfold ics
  induction xs with
  | nil => rfl
  | cons x xs ih => simp [ih]
theorem svs_flat (ss : List SR) : svs ss = ss.flatMap fun s => [srv s] := by
  unfold svs
  induction ss with
  | nil => rfl
  | cons x xs ih => simp [ih]
end Go.Proofs.YtoglebfiobofoaaDoor
/- EdC: Records that came in, and what the laws do with them: their size, a copy, a comparison. -/
namespace Go.Proofs.YtoglebfiobofoaaDoor
set_option maxRecDepth 100000
open Go.RowKit Go.Deep Go.ChangeShapes Go.WideShapes
attribute [local go_sem ↓] Go.wp_at_zero Go.wp_at_succ

/-- A record whose numbers are the machine's, and whose texts it can count. -/
def EdFit (e : EM) : Prop := e.path.size ≤ 9223372036854775807 ∧ e.dest.size ≤ 9223372036854775807 ∧ (Lit.int .i64 e.kind).wf = true ∧ (Lit.int .i64 e.num).wf = true ∧ (Lit.int .i64 e.who).wf = true
theorem cells_edit : Tryd.prog.cellsOf 23 = 5 := by kernel_rfl
theorem cells_intE : Tryd.prog.cellsOf 3 = 1 := by kernel_rfl
theorem cells_strE : Tryd.prog.cellsOf 9 = 1 := by kernel_rfl
set_option maxRecDepth 100000 in
theorem open_edit_cells {H : Type} {enc : TypeId × Value → H} {W : World} {base : Nat} {spare : Nat → Bool} {held : Bool} {n : Nat} {cs : List Value} {x : DataW H × List MemPlace} (h : DataW.trod enc Tryd.prog W base spare held n 23 cs = some x) :
    ∃ e : EM, cs = ecells e ∧ EdFit e := by
  obtain ⟨xs, k, _, rfl, hl, hlen, hf⟩ := DataW.trod_struct Tryd.underlying23 h
  rw [cells_edit] at hl
  match xs, hlen, cs, hl with
  | [y0, y1, y2, y3, y4], _, [v0, v1, v2, v3, v4], _ =>
    have g0 := hf 0 _ rfl
    have g1 := hf 1 _ rfl
    have g2 := hf 2 _ rfl
    have g3 := hf 3 _ rfl
    have g4 := hf 4 _ rfl
    simp [cells_strE, cells_intE] at g0 g1 g2 g3 g4
    obtain ⟨q0, e0, _, z0⟩ := DataW.trod_int Tryd.underlying3 g0
    obtain ⟨s1, e1, _, z1⟩ := DataW.trod_string Tryd.underlying9 g1
    obtain ⟨s2, e2, _, z2⟩ := DataW.trod_string Tryd.underlying9 g2
    obtain ⟨q3, e3, _, z3⟩ := DataW.trod_int Tryd.underlying3 g3
    obtain ⟨q4, e4, _, z4⟩ := DataW.trod_int Tryd.underlying3 g4
    simp only [List.cons.injEq, and_true] at e0 e1 e2 e3 e4
    subst e0 e1 e2 e3 e4
    unfold maxLen at z1 z2
    exact ⟨⟨q0, s1, s2, q3, q4⟩, rfl, by simpa using z1, by simpa using z2, z0, z3, z4⟩
set_option maxRecDepth 100000 in
theorem open_edit {H : Type} {enc : TypeId × Value → H} {W : World} {r : Reach} {b0 base : Nat} {spare : Nat → Bool} {held : Bool} {v : Value} {d : DataW H} {p : List MemPlace}
    (hv : Value.okWide Tryd.prog W r b0 23 v) (h : DataW.Trod enc Tryd.prog W base spare held 23 v d p) : ∃ e : EM, v = ev e ∧ EdFit e := by
  obtain ⟨cs, rfl, hsz⟩ := okWide_struct Tryd.underlying23 hv
  obtain ⟨fuel, h⟩ := h
  obtain ⟨f, e, hf⟩ := open_edit_cells h
  refine ⟨f, ?_, hf⟩
  have : cs.toList = ecells f := by simpa [Value.cells] using e
  rw [show cs = (ecells f).toArray by rw [← this]]
  rfl
set_option maxRecDepth 100000 in
theorem szEdit_any (e : EM) (left : Int) (w : World) (h0 : 0 ≤ left) (h1 : left ≤ 1048576) (hf : EdFit e) :
    Calls Tryd.prog 5 #[ev e, .int .i64 left] w fun r w' => (∃ q : Int, r = .returned (.int .i64 q) ∧ -1 ≤ q ∧ (0 ≤ q → q + e.path.size + e.dest.size = left)) ∧ Below w.heap.size w w' := by
  obtain ⟨kind, path, dest, num, who⟩ := e
  obtain ⟨f1, f2, _⟩ := hf
  dsimp only at *
  by_cases c1 : left - path.size < 0
  · go_enter Tryd.func5, Tryd.ntmps5
    go_wp2_with fail
    go_ret
    exact ⟨⟨-1, rfl, by omega, by omega⟩, (Below.refl _ _).alloc (Nat.le_refl _) _⟩
  · by_cases c2 : left - path.size - dest.size < 0
    · go_enter Tryd.func5, Tryd.ntmps5
      go_wp2_with fail
      go_ret
      exact ⟨⟨-1, rfl, by omega, by omega⟩, (Below.refl _ _).alloc (Nat.le_refl _) _⟩
    · go_enter Tryd.func5, Tryd.ntmps5
      go_wp2_with fail
      go_ret
      exact ⟨⟨left - path.size - dest.size, rfl, by omega, by omega⟩, (Below.refl _ _).alloc (Nat.le_refl _) _⟩
set_option maxRecDepth 100000 in
theorem toEdit_any (e : EM) (w : World) : Calls Tryd.prog 7 #[ev e] w fun r w' => r = .returned (ev e) ∧ Below w.heap.size w w' := by
  go_enter Tryd.func7, Tryd.ntmps7
  go_wp2_with fail
  refine bodyPost_ret (v := ev e) (by simp [results, Tryd.results7, go_sem]) rfl ⟨rfl, ?_⟩
  exact (((Below.refl _ _).alloc (Nat.le_refl _) _).alloc (by simp) _).alloc (by simp; omega) _
set_option maxRecDepth 100000 in
theorem eqEdit_same (e : EM) (w : World) : Calls Tryd.prog 26 #[ev e, ev e] w fun r w' => r = .returned (.bool true) ∧ Below w.heap.size w w' := by
  go_enter Tryd.func26, Tryd.ntmps26
  go_wp2_with fail
  go_ret
  exact ⟨rfl, ((Below.refl _ _).alloc (Nat.le_refl _) _).alloc (by simp) _⟩
end Go.Proofs.YtoglebfiobofoaaDoor
/- PaI: The program's own NameOk: its text is gone through rune by rune. -/
namespace Go.Proofs.YtoglebfiobofoaaDoor
set_option maxRecDepth 100000
open Go.RowKit
open Go.PlainAid (bt)
attribute [local go_sem ↓] Go.wp_at_zero Go.wp_at_succ

theorem get_bt9 (s : ByteArray) (j : Nat) (h : j < s.size) : bt s j = ((s.get! j).toNat : Int) := by
  unfold bt
  rw [dif_pos h]
  simp [ByteArray.get!, getElem!_pos, h]
  rfl
/-- A rune that is no byte below 128 goes over bytes from 128 on alone, and not past the end. -/
theorem decode_far (s : ByteArray) (pos : Nat) (h : pos < s.size) (ha : 128 ≤ bt s pos) : pos + (Utf8.decode s pos).2 ≤ s.size ∧ (Utf8.decode s pos).2 ≤ 4 ∧ ∀ d, d < (Utf8.decode s pos).2 → 128 ≤ bt s (pos + d) := by
  have hg := fun d (q : pos + d < s.size) => get_bt9 s (pos + d) q
  have g0 := hg 0 (by omega)
  simp only [Nat.add_zero] at g0
  have g1 := hg 1
  have g2 := hg 2
  have g3 := hg 3
  clear hg
  have hn : ¬ (s.get! (pos + 0)).toNat < 128 := by simp only [Nat.add_zero]; omega
  simp only [Utf8.decode, hn, if_false]
  have hone : pos + 1 ≤ s.size ∧ 1 ≤ 4 ∧ ∀ d, d < 1 → 128 ≤ bt s (pos + d) := ⟨by omega, by omega, fun d hd => by
    have : d = 0 := by omega
    subst this; exact ha⟩
  split
  · rename_i q
    simp only [Bool.and_eq_true, decide_eq_true_eq, beq_iff_eq] at q
    split
    · refine ⟨by simp only; omega, by simp only; omega, fun d hd => ?_⟩
      have h1 := g1 q.2.1
      rcases (show d = 0 ∨ d = 1 from by simp only at hd; omega) with rfl | rfl
      · exact ha
      · rw [h1]; omega
    · exact hone
  · split
    · rename_i q
      simp only [Bool.and_eq_true, decide_eq_true_eq, beq_iff_eq] at q
      split
      · refine ⟨by simp only; omega, by simp only; omega, fun d hd => ?_⟩
        have h1 := g1 q.1.2.1
        have h2 := g2 q.2.1
        rcases (show d = 0 ∨ d = 1 ∨ d = 2 from by simp only at hd; omega) with rfl | rfl | rfl
        · exact ha
        · rw [h1]; omega
        · rw [h2]; omega
      · exact hone
    · split
      · rename_i q
        simp only [Bool.and_eq_true, decide_eq_true_eq, beq_iff_eq] at q
        split
        · refine ⟨by simp only; omega, by simp only; omega, fun d hd => ?_⟩
          have h1 := g1 q.1.1.2.1
          have h2 := g2 q.1.2.1
          have h3 := g3 q.2.1
          rcases (show d = 0 ∨ d = 1 ∨ d = 2 ∨ d = 3 from by simp only at hd; omega) with rfl | rfl | rfl | rfl
          · exact ha
          · rw [h1]; omega
          · rw [h2]; omega
          · rw [h3]; omega
        · exact hone
      · exact hone
theorem rune_low (s : ByteArray) (pos : Nat) (h : pos < s.size) (ha : bt s pos < 128) : ((Utf8.decode s pos).1 : Int) = bt s pos ∧ (Utf8.decode s pos).2 = 1 := by
  have e : bt s pos = ((s[pos]'h).toNat : Int) := by unfold bt; rw [dif_pos h]
  rw [decode_ascii s pos h (by omega), e]
  exact ⟨rfl, rfl⟩
theorem rune_high (s : ByteArray) (pos : Nat) (h : pos < s.size) (ha : 128 ≤ bt s pos) : (128 : Int) ≤ ((Utf8.decode s pos).1 : Int) ∧ 1 ≤ (Utf8.decode s pos).2 := by
  have e : bt s pos = ((s[pos]'h).toNat : Int) := by unfold bt; rw [dif_pos h]
  have := decode_high s pos h (by omega)
  omega
theorem implNameRune (r : Int) (b : Bool) (hb : b = true ↔ nameN r) (w : World) : Calls Tryd.prog 74 #[.int .i32 r] w fun e w' => e = .returned (.bool b) ∧ w' = w := by
  have HB := Shut.mk hb
  clear hb
  unfold nameN at HB
  by_cases c1 : 97 ≤ r
  · by_cases c2 : r ≤ 122
    · have hb : b = true := HB.out.2 (by omega)
      subst hb
      go_enter Tryd.func74, Tryd.ntmps74
      go_wp2_with fail
      go_ret
      exact ⟨rfl, rfl⟩
    · have c3 : 48 ≤ r := by omega
      have c4 : ¬ r ≤ 57 := by omega
      have hb : b = false := by cases b with | false => rfl | true => exact absurd (HB.out.1 rfl) (by omega)
      subst hb
      go_enter Tryd.func74, Tryd.ntmps74
      go_wp2_with fail
      go_ret
      exact ⟨rfl, rfl⟩
  · by_cases c3 : 48 ≤ r
    · by_cases c4 : r ≤ 57
      · have hb : b = true := HB.out.2 (by omega)
        subst hb
        go_enter Tryd.func74, Tryd.ntmps74
        go_wp2_with fail
        go_ret
        exact ⟨rfl, rfl⟩
      · have hb : b = false := by cases b with | false => rfl | true => exact absurd (HB.out.1 rfl) (by omega)
        subst hb
        go_enter Tryd.func74, Tryd.ntmps74
        go_wp2_with fail
        go_ret
        exact ⟨rfl, rfl⟩
    · have hb : b = false := by cases b with | false => rfl | true => exact absurd (HB.out.1 rfl) (by omega)
      subst hb
      go_enter Tryd.func74, Tryd.ntmps74
      go_wp2_with fail
      go_ret
      exact ⟨rfl, rfl⟩
theorem iter_below (w : World) (s : ByteArray) (pos : Nat) : Below w.heap.size w (w.iter s pos) := (Below.refl _ _).alloc (Nat.le_refl _) _
set_option maxRecDepth 100000 in
set_option maxHeartbeats 1000000 in
theorem implNameOk (s : ByteArray) (w : World) (hs : s.size ≤ 1048576) : Calls Tryd.prog 72 #[.string s] w fun e w' => e = .returned (.bool (nameB s)) ∧ Below w.heap.size w w' := by
  obtain ⟨r, hre⟩ : ∃ r, r = nameB s := ⟨_, rfl⟩
  have HRE := Shut.mk hre
  rw [← hre]
  clear hre
  have hnot (q : ¬ (1 ≤ s.size ∧ s.size ≤ 8)) : r = false := by
    rw [HRE.out]
    cases e : nameB s with
    | false => rfl
    | true => exact absurd ((nameB_iff s).1 e).2 q
  by_cases h1 : s.size < 1
  · have hr := hnot (by omega)
    subst hr
    have h1' : (s.size : Int) < 1 := by omega
    go_enter Tryd.func72, Tryd.ntmps72
    go_wp2_with fail
    go_ret
    exact ⟨rfl, Below.refl _ _⟩
  have h1' : ¬ (s.size : Int) < 1 := by omega
  by_cases h8 : 8 < s.size
  · have hr := hnot (by omega)
    subst hr
    have h8' : (8 : Int) < (s.size : Int) := by omega
    go_enter Tryd.func72, Tryd.ntmps72
    go_wp2_with fail
    go_ret
    exact ⟨rfl, Below.refl _ _⟩
  have h8' : ¬ (8 : Int) < (s.size : Int) := by omega
  clear hnot
  go_enter Tryd.func72, Tryd.ntmps72
  go_wp2_with fail
  go_loopw [2] (fun v wr => ∃ (pos : Nat), v = .bool false ∧ wr = w.iter s pos ∧ pos ≤ s.size ∧ Shut (∀ j, j < pos → nameN (bt s j))) (fun _ wr => s.size - wr.iterPos w.heap.size)
  case atStart => exact ⟨0, rfl, rfl, Nat.zero_le _, ⟨fun j hj => by omega⟩⟩
  case round =>
    obtain ⟨pos, rfl, rfl, hp, hall⟩ := hrel
    by_cases hlt : pos < s.size
    · have hnx : ∀ ty, (Instr.next (.pointer (some ⟨w.heap.size, 0, none⟩)) true ty).run Tryd.prog (w.iter s pos) = _ := fun ty => run_next_any w s pos ty hlt
      have hlow := rune_low s pos hlt
      have hhigh := rune_high s pos hlt
      generalize Utf8.decode s pos = D at *
      obtain ⟨rn, wd⟩ := D
      simp only at hlow hhigh hnx
      by_cases hn : nameN (bt s pos)
      · have hl : bt s pos < 128 := by unfold nameN at hn; omega
        obtain ⟨e1, rfl⟩ := hlow hl
        have HN := Shut.mk (fun W => implNameRune (rn : Int) true (by rw [e1]; exact ⟨fun _ => hn, fun _ => rfl⟩) W)
        have HA : Shut (∀ j, j < pos + 1 → nameN (bt s j)) := ⟨fun j hj => by
          by_cases e : j = pos
          · subst e; exact hn
          · exact hall.out j (by omega)⟩
        clear hn hlow hhigh e1 hl hall
        go_wp2_with fail
        refine (HN.out _).mono ?_
        rintro e w1 ⟨rfl, hw⟩
        subst hw
        go_wp2_with fail
        go_roundw
        case rel => exact ⟨pos + 1, rfl, rfl, by omega, HA⟩
        case measure => simp; omega
      · have hr : r = false := HRE.out.trans (nameB_no hlt hn)
        have HN := Shut.mk (fun W => implNameRune (rn : Int) false (by
          refine ⟨fun q => (Bool.noConfusion q), fun q => ?_⟩
          exfalso
          by_cases hl : bt s pos < 128
          · rw [(hlow hl).1] at q; exact hn q
          · have := (hhigh (by omega)).1
            unfold nameN at q
            omega) W)
        subst hr
        clear hn hlow hhigh hall
        go_wp2_with fail
        refine (HN.out _).mono ?_
        rintro e w1 ⟨rfl, hw⟩
        subst hw
        go_wp2_with fail
        go_ret
        exact ⟨rfl, iter_below _ _ _⟩
    · have hnx : ∀ ty, (Instr.next (.pointer (some ⟨w.heap.size, 0, none⟩)) true ty).run Tryd.prog (w.iter s pos) = _ := fun ty => run_next_end w s pos ty hlt
      have hr : r = true := HRE.out.trans ((nameB_iff s).2 ⟨fun j hj => hall.out j (by omega), by omega, by omega⟩)
      subst hr
      go_wp2_with fail
      go_ret
      exact ⟨rfl, iter_below _ _ _⟩
end Go.Proofs.YtoglebfiobofoaaDoor
