/- Texts of ours, laid one behind the other: NestC, SpnE, GrwA, EdA, PathS, GrwB, GrwC, CpA, CpB, ApA, MapA, LkP. -/
import Derived.Test.YthfmjjaollekiaaPz3
import Derived.Test.YthfmjjaollekiaaPz1
import Derived.Test.YthfmjjaollekiaaPz2
import Derived.BigQuiet
import Derived.Deep.CutRange
import Derived.OrdersHeld
import Derived.Deep.Upon
import Derived.Deep.AppendLies
import Derived.Maps.AppendAt
import Derived.Maps.OwnSet
import Derived.Maps.RangeWalk
/- NestC: Rows of rows of numbers: the laws' own comparisons, marks that are laid into one, and found again. -/
namespace Go.Proofs.Ythfmjjaollekiaa
set_option maxRecDepth 100000
open Go.RowKit
attribute [local go_sem ↓] Go.wp_at_zero Go.wp_at_succ

set_option maxHeartbeats 1000000 in
theorem markIntS_marks (g : Nat) (xs : List Int) (k ca : Nat) (w : World) (ha : WCells w g (ics xs)) (hn : k + xs.length ≤ 1000000000) (hca : xs.length ≤ ca) :
    Calls Try.prog 19 #[.slice (some ⟨g, 0, none⟩) xs.length ca, .int .i64 k] w fun e w' => e = .returned (.int .i64 (k + xs.length : Nat)) ∧ WCells w' g (ics (marksI k xs.length)) ∧ w.grownBy w' (some g) := by
  obtain ⟨n, hnx⟩ : ∃ n, n = xs.length := ⟨_, rfl⟩
  have HN : Hid (n = xs.length) := hnx
  rw [← hnx]
  rw [← hnx] at hn hca
  clear hnx
  have HA : Shut (WCells w g (ics xs)) := ⟨ha⟩
  clear ha
  go_enter Try.func19, Try.ntmps19
  go_wp2_with fail
  go_loopw [1, 5] (fun c i wr => ∃ (j : Nat) (ys : List Int), i = .int .i64 j ∧ c = .int .i64 (k + j : Nat) ∧ j ≤ n ∧ Shut (ys.length = n ∧ ∀ t, t < j → ys.getD t 0 = ((k + t : Nat) : Int)) ∧ Shut (WCells wr g (ics ys)) ∧ w.grownBy wr (some g)) (fun _ i _ => n - (intOf i).toNat)
  case atStart => exact ⟨0, xs, rfl, rfl, Nat.zero_le _, ⟨HN.out.symm, fun t ht => by omega⟩, HA, ⟨rfl, rfl, rfl, Nat.le_refl _, fun _ _ _ => rfl⟩⟩
  case round =>
    obtain ⟨j, ys, rfl, rfl, hj, hyl, hw, hgr⟩ := hrel
    by_cases hlt : j < n
    · have j0 : (0 : Int) ≤ (j : Int) := by omega
      have j1 : (j : Int) < (n : Int) := by omega
      obtain ⟨c0, z0⟩ := hw.out.2 j _ (ics_get ys j (by rw [hyl.out.1]; exact hlt))
      have hset := hw.out.set j (.int .i64 ((k : Int) + (j : Int))) (by rw [ics_len, hyl.out.1]; omega)
      rw [ics_set] at hset
      have HS : Shut (WCells (wr.setCell ⟨g, j, none⟩ (.int .i64 ((k : Int) + (j : Int)))) g (ics (ys.set j ((k : Int) + (j : Int))))) := ⟨hset⟩
      have HG : Hid (w.grownBy (wr.setCell ⟨g, j, none⟩ (.int .i64 ((k : Int) + (j : Int)))) (some g)) := gb_two' hgr (gb_set' wr g j _)
      have HY : Shut ((ys.set j ((k : Int) + (j : Int))).length = n ∧ ∀ t, t < j + 1 → (ys.set j ((k : Int) + (j : Int))).getD t 0 = ((k + t : Nat) : Int)) := ⟨by rw [List.length_set]; exact hyl.out.1, fun t ht => by
        by_cases e : t = j
        · subst e; simp [List.getD, show t < ys.length by rw [hyl.out.1]; exact hlt]
        · have := hyl.out.2 t (by omega)
          simpa [List.getD, List.getElem?_set, Ne.symm e] using this⟩
      clear hset hyl hgr hw
      go_wp2_with fail
      go_roundw
      case rel => exact ⟨j + 1, _, by go_num, congrArg (Value.int .i64) (by omega), by omega, HY, HS, HG.out⟩
      case measure => simp [intOf]; omega
    · have e : j = n := by omega
      subst e
      have ey : ys = marksI k j := by
        apply List.ext_getElem
        · rw [hyl.out.1, marksI_len]
        · intro t h1 h2
          have h3 := hyl.out.2 t (by rw [hyl.out.1] at h1; exact h1)
          have h4 := marksI_at k j t (by rw [hyl.out.1] at h1; exact h1)
          rw [← h4] at h3
          simpa [List.getD, h1, h2] using h3
      have HW : Shut (WCells wr g (ics (marksI k j))) := ⟨by rw [← ey]; exact hw.out⟩
      clear ey hyl hw
      go_wp2_with fail
      go_ret
      exact ⟨rfl, HW.out, hgr⟩
set_option maxHeartbeats 1000000 in
theorem heldIntS_marks (a : Option Addr) (k n ca : Nat) (w : World) (ha : CRow w a (ics (marksI k n))) (hn : k + n ≤ 1000000000) :
    Calls Try.prog 20 #[.slice a n ca, .int .i64 k] w fun e w' => e = .returned (.int .i64 (k + n : Nat)) ∧ Below w.heap.size w w' := by
  have HA : Hid (CRow w a (ics (marksI k n))) := ha
  clear ha
  go_enter Try.func20, Try.ntmps20
  go_wp2_with fail
  go_loopw [1, 5] (fun c i wr => ∃ (j : Nat), i = .int .i64 j ∧ c = .int .i64 (k + j : Nat) ∧ j ≤ n ∧ Below w.heap.size w wr) (fun _ i _ => n - (intOf i).toNat)
  case atStart => exact ⟨0, rfl, rfl, Nat.zero_le _, Below.refl _ _⟩
  case round =>
    obtain ⟨j, rfl, rfl, hj, hbl⟩ := hrel
    by_cases hlt : j < n
    · obtain ⟨b1, o1, rfl, l1, hc1⟩ := crow_int (HA.out.stays hbl) (by rw [marksI_len]; omega)
      have d0 := hc1 j (by rw [marksI_len]; exact hlt)
      rw [marksI_at k n j hlt] at d0
      have j0 : (0 : Int) ≤ (j : Int) := by omega
      have j1 : (j : Int) < (n : Int) := by omega
      have hbn : ∀ q, Below w.heap.size w (wr.drewN q) := fun q => hbl.trans ⟨rfl, rfl, rfl, Nat.le_refl _, fun _ _ => rfl⟩
      have HB0 : Hid (Below w.heap.size w wr) := hbl
      clear hc1 hbl
      go_wp2_with fail
      all_goals (try go_quiet (fail))
      all_goals go_wp2_with fail
      all_goals exact ⟨⟨j + 1, by go_num, congrArg (Value.int .i64) (by omega), by omega, by first | exact hbn _ | exact HB0.out⟩, by simp [intOf]; omega⟩
    · have e : j = n := by omega
      subst e
      go_wp2_with fail
      go_ret
      exact ⟨rfl, hbl⟩
end Go.Proofs.Ythfmjjaollekiaa
/- SpnE: Rows of numbers as values: their comparison, marks that are laid and found again. -/
namespace Go.Proofs.Ythfmjjaollekiaa
set_option maxRecDepth 100000
open Go.RowKit

theorem eqIntS_val {w : World} {v u : Value} {xs : List Int} {lo hi lo' hi' : Nat} (h : IAns w v xs lo hi) (k : IAns w u xs lo' hi') (hf : xs.length ≤ 1048576) : Calls Try.prog 16 #[v, u] w fun e w' => e = .returned (.bool true) ∧ Below w.heap.size w w' := by
  obtain ⟨a, cap, rfl, h1⟩ := h.crow
  obtain ⟨b, cap', rfl, h2⟩ := k.crow
  exact eqIntS_same a b xs cap cap' w h1 h2 hf
theorem markIntS_val {w : World} {v : Value} {xs : List Int} {lo hi : Nat} (k : Nat) (h : IAns w v xs lo hi) (hk : k + xs.length ≤ 100000000) :
    Calls Try.prog 19 #[v, .int .i64 k] w fun e w' => e = .returned (.int .i64 (k + xs.length : Nat)) ∧ IAns w' v (marksI k xs.length) lo hi ∧ Turned w w' lo hi := by
  obtain ⟨a, cap, rfl, hc, h1⟩ := h
  rcases h1 with rfl | ⟨g, rfl, q1, q2, hm⟩
  · refine (markIntS_none a k cap w).mono ?_
    rintro e w' ⟨rfl, rfl⟩
    exact ⟨rfl, ⟨a, cap, by rw [marksI_len], by rw [marksI_len]; exact Nat.zero_le _, .inl rfl⟩, Turned.refl _ _ _⟩
  · refine (markIntS_marks g xs k cap w hm (by omega) hc).mono ?_
    rintro e w' ⟨rfl, hw, hg⟩
    exact ⟨rfl, ⟨_, cap, by rw [marksI_len], by rw [marksI_len]; exact hc, .inr ⟨g, rfl, q1, q2, hw⟩⟩, Turned.of_grown hg q1 q2⟩
theorem heldIntS_val {w : World} {v : Value} {k n lo hi : Nat} (h : IAns w v (marksI k n) lo hi) (hk : k + n ≤ 100000000) :
    Calls Try.prog 20 #[v, .int .i64 k] w fun e w' => e = .returned (.int .i64 (k + n : Nat)) ∧ Below w.heap.size w w' := by
  obtain ⟨a, cap, rfl, h1⟩ := h.crow
  rw [marksI_len]
  exact heldIntS_marks a k n cap w h1 (by omega)
theorem spansX_len (s n : Int) : (spansX s n).length ≤ 1001 := by
  unfold spansX
  split
  · rename_i h
    unfold spanL
    rw [List.length_append, List.length_replicate, List.length_singleton]
    have := Nat.div_le_self (n.toNat - 1) (groupN s)
    omega
  · exact Nat.zero_le _
end Go.Proofs.Ythfmjjaollekiaa
/- GrwA: A region that draws its order, whose operations only read and whose callees make new memory alone and answer one value wherever they are called: one walk, in the text's order. -/
namespace Go.Proofs.Ythfmjjaollekiaa
set_option maxRecDepth 100000
open Go.RowKit

/-- A world with more memory. -/
structure Grow (w : World) where
  val : World
  bel : Below w.heap.size w val
instance {w : World} : Nonempty (Grow w) := ⟨⟨w, Below.refl _ _⟩⟩
theorem wp_region_grow {P : Program} {id : Nat} {Q : Exit → Act → World → Prop} {a : Act} {w : World} {l : List Oper} (hm : P.follows .mixedOrders = true) (hB : Region.lexB .any l.toArray = true)
    (h : wpQuiet P l.toArray (fun W => ∃ X : Grow w, W = X.val) (fun a' => ∀ w', (∃ X : Grow w, w' = X.val) → Q .normal a' w') l a) : (Code.region id l.toArray true).wp P Q a w :=
  wp_region_quiet (C := fun W => ∃ X : Grow w, W = X.val) hm hB ⟨⟨w.drew, Below.drew (Below.refl _ _)⟩, rfl⟩ (by simpa using h)
theorem Grow.cell {w : World} (X : Grow w) {p : Addr} {v : Value} (h : w.cell? p = some v) (hl : p.block < w.heap.size) : X.val.cell? p = some v := (X.bel.cell hl).trans h
theorem calls_grow {P : Program} {f : FuncId} {args : Array Value} {w : World} {v : Value} (h : ∀ W, Below w.heap.size w W → Calls P f args W fun e w' => e = .returned v ∧ Below W.heap.size W w') (X : Grow w) :
    Calls P f args X.val fun e w'' => e = .returned v ∧ ∃ Y : Grow w, w'' = Y.val :=
  (h X.val X.bel).mono fun _ w'' ⟨he, hb⟩ => ⟨he, ⟨w'', X.bel.trans (hb.mono X.bel.size)⟩, rfl⟩
theorem calls_same {P : Program} {f : FuncId} {args : Array Value} {w : World} {v : Value} (h : ∀ W, Below w.heap.size w W → Calls P f args W fun e w' => e = .returned v ∧ w' = W) (X : Grow w) :
    Calls P f args X.val fun e w'' => e = .returned v ∧ ∃ Y : Grow w, w'' = Y.val :=
  (h X.val X.bel).mono fun _ _ ⟨he, hb⟩ => ⟨he, X, hb⟩
end Go.Proofs.Ythfmjjaollekiaa
/- EdA: Records, plain, and as values; the model's EditOk. -/
namespace Go.Proofs.Ythfmjjaollekiaa
set_option maxRecDepth 100000
open Go.RowKit BigFrame
attribute [local go_sem ↓] Go.wp_at_zero Go.wp_at_succ

/-- A record. -/
structure EM where
  kind : Int
  path : ByteArray
  dest : ByteArray
  num : Int
  who : Int
instance : Inhabited EM := ⟨⟨0, ⟨#[]⟩, ⟨#[]⟩, 0, 0⟩⟩
abbrev ev (e : EM) : Value := .agg #[.int .i64 e.kind, .string e.path, .string e.dest, .int .i64 e.num, .int .i64 e.who]
def ecells (e : EM) : List Value := [.int .i64 e.kind, .string e.path, .string e.dest, .int .i64 e.num, .int .i64 e.who]
theorem ecells_len (e : EM) : (ecells e).length = 5 := rfl
/-- A record whose texts a machine can hold. -/
def EFit (e : EM) : Prop := e.path.size ≤ 1048576 ∧ e.dest.size ≤ 1048576
/-- A path that is not the root's. -/
def named (p : ByteArray) : Bool := (parentB p).2.2
/-- What is wrong with a record's paths. -/
def pathBad (e : EM) : Bool := (!named e.path && !(((e.kind == 5) || (e.kind == 6)) && (e.path.toList == [47]))) || ((e.kind == 3) != named e.dest) || ((e.kind != 3) && (e.dest.toList != []))
/-- Its numbers, by its kind. -/
def numsOk (e : EM) : Bool := if e.kind = 5 then inI e.num 1 3 && (e.who == 0) else if e.kind = 6 then inI e.num 0 1000 && (e.who == 0) else if e.kind = 7 then inI e.num 1 200 && (e.who == 0) else if e.kind = 2 ∨ e.kind = 9 then (e.num == 0) && inI e.who 1 9 else (e.num == 0) && (e.who == 0)
/-- A right record. -/
def editOk (e : EM) : Bool := inI e.kind 1 10 && (if e.kind = 10 then (e.path.toList == [47]) && (e.dest.toList == []) && (e.num == 0) && (e.who == 0) else !pathBad e && numsOk e)
theorem specNamed (p : ByteArray) (w : World) (hs : p.size ≤ 1048576) : Calls Try.prog 106 #[.string p] w fun e w' => e = .returned (.bool (named p)) ∧ Below w.heap.size w w' := by
  have HC := Shut.mk (fun W => specParentPath p W hs)
  unfold ParPost at HC
  have e0 : named p = (parentB p).2.2 := rfl
  rw [e0]
  generalize (parentB p).2.2 = a at *
  generalize (parentB p).2.1 = b at *
  generalize (parentB p).1 = c at *
  clear hs e0
  go_enter Try.func106, Try.ntmps106
  go_wp2_with fail
  refine (HC.out _).mono ?_
  rintro e w1 ⟨rfl, hb⟩
  go_wp2_with fail
  go_ret
  exact ⟨rfl, hb⟩
end Go.Proofs.Ythfmjjaollekiaa
/- PathS: Plain: paths are short. -/
namespace Go.Proofs.Ythfmjjaollekiaa
set_option maxRecDepth 100000

theorem flat_size (L : List (List UInt8)) (h : ∀ l ∈ L, nameL l = true) : ((L.map (47 :: ·)).flatten).length ≤ 9 * L.length := by
  induction L with
  | nil => simp
  | cons x L ih =>
    have h1 := (nameL_pos (h x (by simp))).2
    have h2 := ih fun l hl => h l (by simp [hl])
    simp only [List.map_cons, List.flatten_cons, List.length_append, List.length_cons]
    omega
theorem split_size {p : List UInt8} (h : (splitP p).2 = true) : p.length ≤ 36 := by
  have e := join_split h
  obtain ⟨h1, h2⟩ := split_names (p := p)
  rw [← e]
  unfold joinP
  split
  · simp
  · have := flat_size _ h1
    omega
theorem parent_small (p : ByteArray) : (parentB p).1.size ≤ 36 ∧ (parentB p).2.1.size ≤ 8 := by
  unfold parentB
  split
  · rename_i hc
    obtain ⟨h1, h2⟩ := split_names (p := lb p)
    have hl : ∀ l ∈ (splitP (lb p)).1.dropLast, nameL l = true := fun l hl => h1 l (List.dropLast_subset _ hl)
    have e : (splitB p).1 = (splitP (lb p)).1.map ba := rfl
    dsimp only
    refine ⟨?_, ?_⟩
    · have e2 : ((splitB p).1.dropLast.map lb) = (splitP (lb p)).1.dropLast := by
        rw [e, List.dropLast_eq_take, List.dropLast_eq_take, List.length_map, ← List.map_take, map_lb_ba]
      unfold joinB
      rw [e2]
      show (joinP _).toArray.size ≤ 36
      rw [List.size_toArray]
      unfold joinP
      split
      · simp
      · have h3 := flat_size _ hl
        rw [List.length_dropLast] at h3
        omega
    · have hne := hc.2
      rcases List.eq_nil_or_concat (splitB p).1 with h0 | ⟨I, x, h0⟩
      · exact absurd h0 hne
      · rw [h0]
        have hx : x ∈ (splitB p).1 := by rw [h0]; simp
        have hn := (splitB_names p).1 x hx
        have := (nameL_pos (l := lb x) hn).2
        have e3 : (I ++ [x]).getLastD ⟨#[]⟩ = x := by simp [List.getLastD_eq_getLast?]
        rw [List.concat_eq_append, e3]
        exact this
  · exact ⟨by decide, by decide⟩
end Go.Proofs.Ythfmjjaollekiaa
/- GrwB: A region that draws its order, some of whose operations make memory: what answers one value in every later world is taken first, calls that only make memory too. The way of the proof is that of the library's Derived.OrdersHeld, which is imported; the class of worlds is ours. -/
namespace Go.Proofs.Ythfmjjaollekiaa
set_option maxRecDepth 100000
open Go.RowKit

/-- A later world: more memory, what was there untouched. -/
def Later (w w' : World) : Prop := Below w.heap.size w w'
theorem Later.refl (w : World) : Later w w := Below.refl _ _
theorem Later.trans {a b c : World} (h : Later a b) (g : Later b c) : Later a c := Below.trans h (Below.mono g (Below.size h))
section
variable {P : Program} {ops : Array Oper} {Q : Exit → Act → World → Prop} {md : Region.Mode}
/-- Whatever order is picked from here on, in whatever later world. -/
def wpL (P : Program) (md : Region.Mode) (ops : Array Oper) (Q : Exit → Act → World → Prop) : Nat → Array Bool → Act → World → Prop
  | 0, l, a, w => Region.ready md ops l = [] ∧ ∀ x, Later w x → Q .normal a x
  | n + 1, l, a, w => ∀ x, Later w x → (Region.ready md ops l = [] → Q .normal a x) ∧
      ∀ i ∈ Region.ready md ops l, wpOp P ops Q i (fun a' y => Later x y ∧ wpL P md ops Q n (l.setIfInBounds i true) a' y) a x
theorem wpL_later : ∀ (n : Nat) (l : Array Bool) (a : Act) (w y : World), Later w y → wpL P md ops Q n l a w → wpL P md ops Q n l a y
  | 0, _, _, _, _, hy, h => ⟨h.1, fun x hx => h.2 x (hy.trans hx)⟩
  | _ + 1, _, _, _, _, hy, h => fun x hx => h x (hy.trans hx)
theorem wpAny_of_L : ∀ (n : Nat) (l : Array Bool) (a : Act) (w : World), wpL P md ops Q n l a w → wpAny P md ops Q n l a w
  | 0, _, _, w, h => ⟨h.1, h.2 w (Later.refl w)⟩
  | n + 1, _, _, w, h => ⟨(h w (Later.refl w)).1, fun i hi => wpOp_mono (fun a' y hh => wpAny_of_L n _ a' y hh.2) ((h w (Later.refl w)).2 i hi)⟩
/-- One value, in every later world; a call may make memory. -/
def YL (P : Program) (ops : Array Oper) (o : Oper) (v : Value) (a : Act) (w : World) : Prop :=
  (Region.wanted o (yielded ops a.tmps) = true ∧ ∀ x, Later w x → o.quietAt P a (Later x) x v) ∨ (Region.wanted o (yielded ops a.tmps) = false ∧ v = undef)
theorem YL.later {o : Oper} {v : Value} {a : Act} {w y : World} (h : YL P ops o v a w) (hy : Later w y) : YL P ops o v a y :=
  h.imp (fun q => ⟨q.1, fun x hx => q.2 x (hy.trans hx)⟩) id
theorem YL.same {o : Oper} {v : Value} {a b : Act} {w : World} (h : YL P ops o v a w) (he : execOp b.eval o = execOp a.eval o) (hw : Region.wanted o (yielded ops b.tmps) = Region.wanted o (yielded ops a.tmps)) : YL P ops o v b w := by
  unfold YL Oper.quietAt at *
  rw [he, hw]
  exact h
theorem YL.op {i : Nat} {o : Oper} {v : Value} {a : Act} {w x : World} {K : Act → World → Prop} (hi : ops[i]? = some o) (h : YL P ops o v a w) (hx : Later w x) (hk : ∀ y, Later x y → K (a.put o.dst v) y) : wpOp P ops Q i K a x := by
  unfold wpOp
  rw [hi]
  dsimp only
  rcases h with ⟨hw, hq⟩ | ⟨hw, hv⟩
  · rw [if_pos hw]
    refine Or.inl ?_
    have q := hq x hx
    unfold Oper.quietAt at q
    unfold Oper.wp
    revert q
    cases (execOp a.eval o).run P x with
    | halt _ _ => exact False.elim
    | ok r y =>
      cases r with
      | value u => rintro ⟨rfl, rfl⟩; exact hk _ (Later.refl _)
      | skip => rintro ⟨rfl, rfl⟩; exact hk _ (Later.refl _)
      | enter f args => rintro ⟨rfl, hc⟩; exact hc.mono (by rintro _ z ⟨rfl, hz⟩; exact hk _ hz)
      | _ => exact False.elim
  · rw [if_neg (by rw [hw]; exact Bool.false_ne_true), ← hv]
    exact hk _ (Later.refl _)
/-- What an operation may do to the frame: its own slot, or a call that is put off. -/
def Fr (d : Option Tmp) (a b : Act) : Prop := ∃ u, b = a.put d u ∨ ∃ f, b = { a with defers := f :: a.defers }.put d u
theorem op_frame {j : Nat} {oj : Oper} {K : Act → World → Prop} {a : Act} {x : World} (hj : ops[j]? = some oj) (h : wpOp P ops Q j K a x) : wpOp P ops Q j (fun b y => Fr oj.dst a b ∧ K b y) a x := by
  unfold wpOp at h ⊢
  rw [hj] at h ⊢
  dsimp only at h ⊢
  split
  · rename_i hw
    rw [if_pos hw] at h
    refine h.imp_left fun q => ?_
    unfold Oper.wp at q ⊢
    revert q
    cases (execOp a.eval oj).run P x with
    | halt r y => cases r <;> exact id
    | ok r y =>
      cases r with
      | value u => exact fun q => ⟨⟨u, .inl rfl⟩, q⟩
      | skip => exact fun q => ⟨⟨undef, .inl rfl⟩, q⟩
      | defer f => exact fun q => ⟨⟨undef, .inr ⟨f, rfl⟩⟩, q⟩
      | enter f args => exact fun q => Calls.mono q fun e z hz => by cases e <;> first | exact ⟨⟨_, .inl rfl⟩, hz⟩ | exact hz
      | row r args => exact fun q => Rows.mono q fun u z hz => ⟨⟨u, .inl rfl⟩, hz⟩
      | _ => exact id
  · rename_i hw
    rw [if_neg hw] at h
    exact ⟨⟨undef, .inl rfl⟩, h⟩
/-- An operation beside another that has its value already: the library's law for no world at all, and what the frame may be behind it. -/
theorem op_beside {j : Nat} {oi oj : Oper} {v : Value} {w : World} (hj : ops[j]? = some oj) (hap : oi.apart ops oj = true) (hsi : ∀ cs b, oi.op ≠ .select cs b) (hsj : ∀ cs b, oj.op ≠ .select cs b)
    (hQ : ∀ c a w, Q (.panic c) (a.put oi.dst v) w → Q (.panic c) a w) {K : Act → World → Prop} {a : Act} {x : World} (hy : YL P ops oi v a w) (h : wpOp P ops Q j K (a.put oi.dst v) x) :
    wpOp P ops Q j (fun a' y => YL P ops oi v a' w ∧ K (a'.put oi.dst v) y) a x := by
  have h3 := (Oper.apart_spec hap).2.2
  refine wpOp_mono ?_ (op_frame hj (wpOp_putIf (S := fun _ => False) hj hap hsi hsj hQ (hy.imp (fun q => ⟨q.1, fun _ hf => hf.elim⟩) id) h))
  rintro b y ⟨⟨u, rfl | ⟨f, rfl⟩⟩, -, hk⟩
  · exact ⟨hy.same (execOp_put oi hsi a oj.dst u h3) (wanted_put oi a oj.dst u h3), hk⟩
  · have q : YL P ops oi v { a with defers := f :: a.defers } w := hy.same rfl rfl
    exact ⟨q.same (execOp_put oi hsi _ oj.dst u h3) (wanted_put oi _ oj.dst u h3), hk⟩
/-- Who may come up waits for nobody who has not come up. -/
theorem ready_free {l : Array Bool} {i j : Nat} {oj : Oper} (hi : i ∈ Region.ready md ops l) (hj : j ∈ Region.ready md ops l) (ho : ops[j]? = some oj) : ∀ e ∈ oj.after, Region.binds md e = true → e.on ≠ i := by
  obtain ⟨-, o', ho', hall⟩ := mem_ready.1 hj
  obtain rfl : oj = o' := Option.some.inj (ho.symm.trans ho')
  rintro e he hb rfl
  have q := hall e he hb
  have z := (mem_ready.1 hi).1
  grind
theorem wpL_first {i : Nat} {oi : Oper} {v : Value} (hi : ops[i]? = some oi) (hsel : ∀ (j : Nat) (o : Oper) cs b, ops[j]? = some o → o.op ≠ .select cs b) (hQ : ∀ c a w, Q (.panic c) (a.put oi.dst v) w → Q (.panic c) a w) :
    ∀ (n : Nat) (l : Array Bool) (a : Act) (w : World), (∀ j oj, ops[j]? = some oj → j ≠ i → l.getD j true = false → (∀ e ∈ oj.after, Region.binds md e = true → e.on ≠ i) → oi.apart ops oj = true) →
      i ∈ Region.ready md ops l → YL P ops oi v a w → wpL P md ops Q n (l.setIfInBounds i true) (a.put oi.dst v) w → wpL P md ops Q (n + 1) l a w := by
  intro n
  induction n with
  | zero =>
    intro l a w _ hr hy H x hx
    refine ⟨fun h => (by rw [h] at hr; cases hr), fun j hj => ?_⟩
    by_cases hji : j = i
    · subst hji
      exact hy.op hi hx fun y hxy => ⟨hxy, wpL_later 0 _ _ _ _ (hx.trans hxy) H⟩
    · have q := ready_mono hj hji
      rw [H.1] at q
      cases q
  | succ n ih =>
    intro l a w hfree hr hy H x hx
    refine ⟨fun h => (by rw [h] at hr; cases hr), fun j hj => ?_⟩
    by_cases hji : j = i
    · subst hji
      exact hy.op hi hx fun y hxy => ⟨hxy, wpL_later (n + 1) _ _ _ _ (hx.trans hxy) H⟩
    · obtain ⟨hun, oj, hoj, -⟩ := mem_ready.1 hj
      have q := op_beside hoj (hfree j oj hoj hji hun (ready_free hr hj hoj)) (fun cs b => hsel i oi cs b hi) (fun cs b => hsel j oj cs b hoj) hQ hy ((H x hx).2 j (ready_mono hj hji))
      refine wpOp_mono (fun b y hb => ⟨hb.2.1, ih (l.setIfInBounds j true) b y (fun k ok hk hki hku hno => hfree k ok hk hki ?_ hno) (ready_mono hr (Ne.symm hji)) (hb.1.later (hx.trans hb.2.1)) ?_⟩) q
      · by_cases hjk : j = k
        · subst hjk; exact hun
        · rw [getD_set_ne true hjk] at hku; exact hku
      · rw [Array.setIfInBounds_comm _ _ hji]
        exact hb.2.2
theorem at_drop {L r : List Oper} {i : Nat} {o : Oper} (h : L.drop i = o :: r) : L.toArray[i]? = some o := by
  have q : (L.drop i)[0]? = some o := by rw [h]; rfl
  simpa using q
/-- Take number i: a value. -/
theorem wpL_val {L r : List Oper} {i : Nat} {oi : Oper} {v : Value} {n : Nat} {l : Array Bool} {a : Act} {w : World} (hi : L.drop i = oi :: r) (hs : Region.noSelect L.toArray = true) (hf : Region.free md L.toArray l i = true) (hr : (Region.ready md L.toArray l).contains i = true)
    (hQ : ∀ c a w, Q (.panic c) (a.put oi.dst v) w → Q (.panic c) a w) (hw : Region.wanted oi (yielded L.toArray a.tmps) = true) (hy : ∀ x, Later w x → (execOp a.eval oi).run P x = .ok (.value v) x)
    (h : wpL P md L.toArray Q n (l.setIfInBounds i true) (a.put oi.dst v) w) : wpL P md L.toArray Q (n + 1) l a w :=
  wpL_first (at_drop hi) (Region.noSelect_spec hs) hQ n l a w (Region.free_spec (at_drop hi) hf) (by simpa using hr) (Or.inl ⟨hw, fun x hx => by unfold Oper.quietAt; rw [hy x hx]; exact ⟨rfl, rfl⟩⟩) h
/-- Take number i: a call. -/
theorem wpL_call {L r : List Oper} {i : Nat} {oi : Oper} {v : Value} {f : FuncId} {args : Array Value} {n : Nat} {l : Array Bool} {a : Act} {w : World} (hi : L.drop i = oi :: r) (hs : Region.noSelect L.toArray = true) (hf : Region.free md L.toArray l i = true) (hr : (Region.ready md L.toArray l).contains i = true)
    (hQ : ∀ c a w, Q (.panic c) (a.put oi.dst v) w → Q (.panic c) a w) (hw : Region.wanted oi (yielded L.toArray a.tmps) = true) (hy : ∀ x, Later w x → (execOp a.eval oi).run P x = .ok (.enter f args) x)
    (hc : ∀ x, Later w x → Calls P f args x fun e y => e = .returned v ∧ Below x.heap.size x y)
    (h : wpL P md L.toArray Q n (l.setIfInBounds i true) (a.put oi.dst v) w) : wpL P md L.toArray Q (n + 1) l a w :=
  wpL_first (at_drop hi) (Region.noSelect_spec hs) hQ n l a w (Region.free_spec (at_drop hi) hf) (by simpa using hr) (Or.inl ⟨hw, fun x hx => by unfold Oper.quietAt; rw [hy x hx]; exact ⟨rfl, hc x hx⟩⟩) h
/-- One alone may come up: it is carried out in a later world. -/
theorem wpL_one {L r : List Oper} {i : Nat} {oi : Oper} {n : Nat} {l : Array Bool} {a : Act} {w : World} (hr : Region.ready md L.toArray l = [i]) (hi : L.drop i = oi :: r) (hw : Region.wanted oi (yielded L.toArray a.tmps) = true)
    (h : ∀ x, Later w x → ∃ (v : Value) (y : World), (execOp a.eval oi).run P x = .ok (.value v) y ∧ Later x y ∧ wpL P md L.toArray Q n (l.setIfInBounds i true) (a.put oi.dst v) y) : wpL P md L.toArray Q (n + 1) l a w := by
  intro x hx
  rw [hr]
  refine ⟨fun h => (by cases h), fun j hj => ?_⟩
  rw [List.mem_singleton] at hj
  subst hj
  obtain ⟨v, y, h1, h2, h3⟩ := h x hx
  unfold wpOp
  rw [at_drop hi]
  dsimp only
  rw [if_pos hw]
  refine Or.inl ?_
  unfold Oper.wp
  rw [h1]
  exact ⟨h2, h3⟩
theorem wpL_done {l : Array Bool} {a : Act} {w : World} (hr : Region.ready md ops l = []) (h : ∀ x, Later w x → Q .normal a x) : ∀ n, wpL P md ops Q n l a w
  | 0 => ⟨hr, h⟩
  | _ + 1 => fun x hx => ⟨fun _ => h x hx, by rw [hr]; simp⟩
theorem wp_region_later {id : Nat} {a : Act} {w : World} (hm : P.follows .mixedOrders = true) (h : wpL P .any ops Q ops.size (Array.replicate ops.size false) a w.drew) : (Code.region id ops true).wp P Q a w :=
  wp_region_any hm (wpAny_of_L _ _ _ _ h)
end
section
variable {P : Program} {Q : Exit → Act → World → Prop} {md : Region.Mode}
/-- One alone may come up, and its call panics. -/
theorem wpL_panics {L r : List Oper} {i : Nat} {oi : Oper} {f : FuncId} {args : Array Value} {chain : List PanicEntry} {n : Nat} {l : Array Bool} {a : Act} {w : World} (hr : Region.ready md L.toArray l = [i]) (hi : L.drop i = oi :: r) (hw : Region.wanted oi (yielded L.toArray a.tmps) = true)
    (hy : ∀ x, Later w x → (execOp a.eval oi).run P x = .ok (.enter f args) x) (hc : ∀ x, Later w x → Calls P f args x fun e y => e = .panicked chain ∧ Q (.panic chain) a y) : wpL P md L.toArray Q (n + 1) l a w := by
  intro x hx
  rw [hr]
  refine ⟨fun h => (by cases h), fun j hj => ?_⟩
  rw [List.mem_singleton] at hj
  subst hj
  unfold wpOp
  rw [at_drop hi]
  dsimp only
  rw [if_pos hw]
  refine Or.inl ?_
  unfold Oper.wp
  rw [hy x hx]
  exact (hc x hx).mono (by rintro e y ⟨rfl, hq⟩; exact hq)
end
section
variable {P : Program} {Q : Exit → Act → World → Prop} {md : Region.Mode}
/-- Take number i: it is not wanted. -/
theorem wpL_skip {L r : List Oper} {i : Nat} {oi : Oper} {n : Nat} {l : Array Bool} {a : Act} {w : World} (hi : L.drop i = oi :: r) (hs : Region.noSelect L.toArray = true) (hf : Region.free md L.toArray l i = true) (hr : (Region.ready md L.toArray l).contains i = true)
    (hQ : ∀ c a w, Q (.panic c) (a.put oi.dst undef) w → Q (.panic c) a w) (hw : Region.wanted oi (yielded L.toArray a.tmps) = false)
    (h : wpL P md L.toArray Q n (l.setIfInBounds i true) (a.put oi.dst undef) w) : wpL P md L.toArray Q (n + 1) l a w :=
  wpL_first (at_drop hi) (Region.noSelect_spec hs) hQ n l a w (Region.free_spec (at_drop hi) hf) (by simpa using hr) (Or.inr ⟨hw, rfl⟩) h
end
end Go.Proofs.Ythfmjjaollekiaa
/- GrwC: A region that draws its order and ends in stores: all that comes ahead of its last operations is taken as in a region that only makes memory; then the last ones, in whatever order. -/
namespace Go.Proofs.Ythfmjjaollekiaa
set_option maxRecDepth 100000
open Go.RowKit
section
variable {P : Program} {ops : Array Oper} {Q : Exit → Act → World → Prop} {md : Region.Mode} {m : Nat}
/-- Only operations from number m on are left. -/
def tailed (m : Nat) (ops : Array Oper) (l : Array Bool) : Bool := (List.range m).all fun j => l.getD j true || decide (ops.size ≤ j)
theorem tailed_spec {l : Array Bool} (h : tailed m ops l = true) {j : Nat} (hj : l.getD j true = false) (hs : j < ops.size) : m ≤ j := by
  refine Nat.le_of_not_lt fun hlt => ?_
  have := List.all_eq_true.1 h j (by simpa using hlt)
  rw [hj, Bool.false_or, decide_eq_true_eq] at this
  omega
/-- Whatever order is picked from here on, in whatever later world, until only the last ones are left. -/
def wpK (P : Program) (md : Region.Mode) (ops : Array Oper) (Q : Exit → Act → World → Prop) (m : Nat) : Nat → Array Bool → Act → World → Prop
  | 0, l, a, w => ∀ x, Later w x → wpAny P md ops Q 0 l a x
  | n + 1, l, a, w => (tailed m ops l = true ∧ ∀ x, Later w x → wpAny P md ops Q (n + 1) l a x) ∨ (∀ x, Later w x → (Region.ready md ops l = [] → Q .normal a x) ∧
      ∀ i ∈ Region.ready md ops l, wpOp P ops Q i (fun a' y => Later x y ∧ wpK P md ops Q m n (l.setIfInBounds i true) a' y) a x)
theorem wpK_later : ∀ (n : Nat) (l : Array Bool) (a : Act) (w y : World), Later w y → wpK P md ops Q m n l a w → wpK P md ops Q m n l a y
  | 0, _, _, _, _, hy, h => fun x hx => h x (hy.trans hx)
  | _ + 1, _, _, _, _, hy, h => h.imp (fun q => ⟨q.1, fun x hx => q.2 x (hy.trans hx)⟩) (fun q x hx => q x (hy.trans hx))
theorem wpAny_of_K : ∀ (n : Nat) (l : Array Bool) (a : Act) (w : World), wpK P md ops Q m n l a w → wpAny P md ops Q n l a w
  | 0, _, _, w, h => h w (Later.refl w)
  | n + 1, _, _, w, h => by
    rcases h with h | h
    · exact h.2 w (Later.refl w)
    · exact ⟨(h w (Later.refl w)).1, fun i hi => wpOp_mono (fun a' y hh => wpAny_of_K n _ a' y hh.2) ((h w (Later.refl w)).2 i hi)⟩
/-- The last ones wait for number i. -/
def waits (md : Region.Mode) (m : Nat) (ops : Array Oper) (i : Nat) : Bool := (List.range ops.size).all fun f => decide (f < m) || ((ops[f]?).map fun o => o.after.any fun e => Region.binds md e && (e.on == i)) == some true
theorem waits_spec {i f : Nat} {o : Oper} (h : waits md m ops i = true) (hf : m ≤ f) (ho : ops[f]? = some o) : ∃ e ∈ o.after, Region.binds md e = true ∧ e.on = i := by
  have hs : f < ops.size := (Array.getElem?_eq_some_iff.1 ho).1
  have := List.all_eq_true.1 h f (by simpa using hs)
  rw [ho] at this
  simp only [Option.map_some, Bool.or_eq_true, decide_eq_true_eq, beq_iff_eq, Option.some.injEq] at this
  rcases this with q | q
  · omega
  · rw [Array.any_eq_true'] at q
    obtain ⟨e, he, q⟩ := q
    rw [Bool.and_eq_true, beq_iff_eq] at q
    exact ⟨e, he, q.1, q.2⟩
theorem wpK_first {i : Nat} {oi : Oper} {v : Value} (hi : ops[i]? = some oi) (hsel : ∀ (j : Nat) (o : Oper) cs b, ops[j]? = some o → o.op ≠ .select cs b) (hQ : ∀ c a w, Q (.panic c) (a.put oi.dst v) w → Q (.panic c) a w) (hwt : waits md m ops i = true) :
    ∀ (n : Nat) (l : Array Bool) (a : Act) (w : World), (∀ j oj, ops[j]? = some oj → j ≠ i → l.getD j true = false → (∀ e ∈ oj.after, Region.binds md e = true → e.on ≠ i) → oi.apart ops oj = true) →
      i ∈ Region.ready md ops l → YL P ops oi v a w → wpK P md ops Q m n (l.setIfInBounds i true) (a.put oi.dst v) w → wpK P md ops Q m (n + 1) l a w := by
  intro n
  induction n with
  | zero =>
    intro l a w _ hr hy H
    refine .inr fun x hx => ⟨fun h => (by rw [h] at hr; cases hr), fun j hj => ?_⟩
    by_cases hji : j = i
    · subst hji
      exact hy.op hi hx fun y hxy => ⟨hxy, wpK_later 0 _ _ _ _ (hx.trans hxy) H⟩
    · have q := ready_mono hj hji
      rw [(H w (Later.refl w)).1] at q
      cases q
  | succ n ih =>
    intro l a w hfree hr hy H
    refine .inr fun x hx => ⟨fun h => (by rw [h] at hr; cases hr), fun j hj => ?_⟩
    by_cases hji : j = i
    · subst hji
      exact hy.op hi hx fun y hxy => ⟨hxy, wpK_later (n + 1) _ _ _ _ (hx.trans hxy) H⟩
    · obtain ⟨hun, oj, hoj, -⟩ := mem_ready.1 hj
      rcases H with H | H
      · have hju : (l.setIfInBounds i true).getD j true = false := by rw [getD_set_ne true (Ne.symm hji)]; exact hun
        have hjm := tailed_spec H.1 hju (Array.getElem?_eq_some_iff.1 hoj).1
        obtain ⟨e, he, hb, hei⟩ := waits_spec hwt hjm hoj
        exact absurd hei (ready_free hr hj hoj e he hb)
      · have q := op_beside hoj (hfree j oj hoj hji hun (ready_free hr hj hoj)) (fun cs b => hsel i oi cs b hi) (fun cs b => hsel j oj cs b hoj) hQ hy ((H x hx).2 j (ready_mono hj hji))
        refine wpOp_mono (fun b y hb => ⟨hb.2.1, ih (l.setIfInBounds j true) b y (fun k ok hk hki hku hno => hfree k ok hk hki ?_ hno) (ready_mono hr (Ne.symm hji)) (hb.1.later (hx.trans hb.2.1)) ?_⟩) q
        · by_cases hjk : j = k
          · subst hjk; exact hun
          · rw [getD_set_ne true hjk] at hku; exact hku
        · rw [Array.setIfInBounds_comm _ _ hji]
          exact hb.2.2
theorem wpK_tail {l : Array Bool} {a : Act} {w : World} (ht : tailed m ops l = true) : ∀ {n : Nat}, (∀ x, Later w x → wpAny P md ops Q n l a x) → wpK P md ops Q m n l a w
  | 0, h => h
  | _ + 1, h => .inl ⟨ht, h⟩
theorem wp_region_tail {id : Nat} {a : Act} {w : World} (m : Nat) (hm : P.follows .mixedOrders = true) (h : wpK P .any ops Q m ops.size (Array.replicate ops.size false) a w.drew) : (Code.region id ops true).wp P Q a w :=
  wp_region_any hm (wpAny_of_K _ _ _ _ h)
end
section
variable {P : Program} {Q : Exit → Act → World → Prop} {md : Region.Mode} {m : Nat}
/-- Take number i: a value. -/
theorem wpK_val {L r : List Oper} {i : Nat} {oi : Oper} {v : Value} {n : Nat} {l : Array Bool} {a : Act} {w : World} (hi : L.drop i = oi :: r) (hs : Region.noSelect L.toArray = true) (hf : Region.free md L.toArray l i = true) (hr : (Region.ready md L.toArray l).contains i = true) (ht : waits md m L.toArray i = true)
    (hQ : ∀ c a w, Q (.panic c) (a.put oi.dst v) w → Q (.panic c) a w) (hw : Region.wanted oi (yielded L.toArray a.tmps) = true) (hy : ∀ x, Later w x → (execOp a.eval oi).run P x = .ok (.value v) x)
    (h : wpK P md L.toArray Q m n (l.setIfInBounds i true) (a.put oi.dst v) w) : wpK P md L.toArray Q m (n + 1) l a w :=
  wpK_first (at_drop hi) (Region.noSelect_spec hs) hQ ht n l a w (Region.free_spec (at_drop hi) hf) (by simpa using hr) (Or.inl ⟨hw, fun x hx => by unfold Oper.quietAt; rw [hy x hx]; exact ⟨rfl, rfl⟩⟩) h
/-- Take number i: a call. -/
theorem wpK_call {L r : List Oper} {i : Nat} {oi : Oper} {v : Value} {f : FuncId} {args : Array Value} {n : Nat} {l : Array Bool} {a : Act} {w : World} (hi : L.drop i = oi :: r) (hs : Region.noSelect L.toArray = true) (hf : Region.free md L.toArray l i = true) (hr : (Region.ready md L.toArray l).contains i = true) (ht : waits md m L.toArray i = true)
    (hQ : ∀ c a w, Q (.panic c) (a.put oi.dst v) w → Q (.panic c) a w) (hw : Region.wanted oi (yielded L.toArray a.tmps) = true) (hy : ∀ x, Later w x → (execOp a.eval oi).run P x = .ok (.enter f args) x)
    (hc : ∀ x, Later w x → Calls P f args x fun e y => e = .returned v ∧ Below x.heap.size x y)
    (h : wpK P md L.toArray Q m n (l.setIfInBounds i true) (a.put oi.dst v) w) : wpK P md L.toArray Q m (n + 1) l a w :=
  wpK_first (at_drop hi) (Region.noSelect_spec hs) hQ ht n l a w (Region.free_spec (at_drop hi) hf) (by simpa using hr) (Or.inl ⟨hw, fun x hx => by unfold Oper.quietAt; rw [hy x hx]; exact ⟨rfl, hc x hx⟩⟩) h
/-- Take number i: it is not wanted. -/
theorem wpK_skip {L r : List Oper} {i : Nat} {oi : Oper} {n : Nat} {l : Array Bool} {a : Act} {w : World} (hi : L.drop i = oi :: r) (hs : Region.noSelect L.toArray = true) (hf : Region.free md L.toArray l i = true) (hr : (Region.ready md L.toArray l).contains i = true) (ht : waits md m L.toArray i = true)
    (hQ : ∀ c a w, Q (.panic c) (a.put oi.dst undef) w → Q (.panic c) a w) (hw : Region.wanted oi (yielded L.toArray a.tmps) = false)
    (h : wpK P md L.toArray Q m n (l.setIfInBounds i true) (a.put oi.dst undef) w) : wpK P md L.toArray Q m (n + 1) l a w :=
  wpK_first (at_drop hi) (Region.noSelect_spec hs) hQ ht n l a w (Region.free_spec (at_drop hi) hf) (by simpa using hr) (Or.inr ⟨hw, rfl⟩) h
/-- One alone may come up, and answers a value; memory may be made. -/
theorem wpK_one {L r : List Oper} {i : Nat} {oi : Oper} {n : Nat} {l : Array Bool} {a : Act} {w : World} (hr : Region.ready md L.toArray l = [i]) (hi : L.drop i = oi :: r) (hw : Region.wanted oi (yielded L.toArray a.tmps) = true)
    (h : ∀ x, Later w x → ∃ (v : Value) (y : World), (execOp a.eval oi).run P x = .ok (.value v) y ∧ Later x y ∧ wpK P md L.toArray Q m n (l.setIfInBounds i true) (a.put oi.dst v) y) : wpK P md L.toArray Q m (n + 1) l a w := by
  refine .inr fun x hx => ?_
  rw [hr]
  refine ⟨fun h => (by cases h), fun j hj => ?_⟩
  rw [List.mem_singleton] at hj
  subst hj
  obtain ⟨v, y, h1, h2, h3⟩ := h x hx
  unfold wpOp
  rw [at_drop hi]
  dsimp only
  rw [if_pos hw]
  refine Or.inl ?_
  unfold Oper.wp
  rw [h1]
  exact ⟨h2, h3⟩
/-- One alone may come up: a call that answers what it likes and only makes memory. -/
theorem wpK_onecall {L r : List Oper} {i : Nat} {oi : Oper} {f : FuncId} {args : Array Value} {n : Nat} {l : Array Bool} {a : Act} {w : World} (hr : Region.ready md L.toArray l = [i]) (hi : L.drop i = oi :: r) (hw : Region.wanted oi (yielded L.toArray a.tmps) = true)
    (hy : ∀ x, Later w x → (execOp a.eval oi).run P x = .ok (.enter f args) x)
    (h : ∀ x, Later w x → Calls P f args x fun e y => ∃ v, e = .returned v ∧ Below x.heap.size x y ∧ wpK P md L.toArray Q m n (l.setIfInBounds i true) (a.put oi.dst v) y) : wpK P md L.toArray Q m (n + 1) l a w := by
  refine .inr fun x hx => ?_
  rw [hr]
  refine ⟨fun h => (by cases h), fun j hj => ?_⟩
  rw [List.mem_singleton] at hj
  subst hj
  unfold wpOp
  rw [at_drop hi]
  dsimp only
  rw [if_pos hw]
  refine Or.inl ?_
  unfold Oper.wp
  rw [hy x hx]
  exact (h x hx).mono (by rintro e y ⟨v, rfl, h1, h2⟩; exact ⟨h1, h2⟩)
/-- A call and the making of a box may come up, in either order. -/
theorem wpK_callbox {L r r' : List Oper} {i j : Nat} {oi oj : Oper} {f : FuncId} {args : Array Value} {n : Nat} {l : Array Bool} {a : Act} {w : World} {C : Array Value} {t : TypeId}
    (hr : Region.ready md L.toArray l = [i, j]) (hi : L.drop i = oi :: r) (hj : L.drop j = oj :: r') (hw : Region.wanted oi (yielded L.toArray a.tmps) = true) (hwj : Region.wanted oj (yielded L.toArray a.tmps) = true)
    (hy : ∀ x, Later w x → (execOp a.eval oi).run P x = .ok (.enter f args) x) (hz : ∀ x, Later w x → (execOp a.eval oj).run P x = .ok (.value (.pointer (some ⟨x.heap.size, 0, none⟩))) (x.alloc (.cells C t)))
    (h1 : ∀ x, Later w x → Calls P f args x fun e y => ∃ v, e = .returned v ∧ Below x.heap.size x y ∧ wpK P md L.toArray Q m n (l.setIfInBounds i true) (a.put oi.dst v) y)
    (h2 : ∀ x, Later w x → wpK P md L.toArray Q m n (l.setIfInBounds j true) (a.put oj.dst (.pointer (some ⟨x.heap.size, 0, none⟩))) (x.alloc (.cells C t))) : wpK P md L.toArray Q m (n + 1) l a w := by
  refine .inr fun x hx => ?_
  rw [hr]
  refine ⟨fun h => (by cases h), fun k hk => ?_⟩
  rw [List.mem_cons, List.mem_singleton] at hk
  unfold wpOp
  rcases hk with rfl | rfl
  · rw [at_drop hi]
    dsimp only
    rw [if_pos hw]
    refine Or.inl ?_
    unfold Oper.wp
    rw [hy x hx]
    exact (h1 x hx).mono (by rintro e y ⟨v, rfl, q1, q2⟩; exact ⟨q1, q2⟩)
  · rw [at_drop hj]
    dsimp only
    rw [if_pos hwj]
    refine Or.inl ?_
    unfold Oper.wp
    rw [hz x hx]
    exact ⟨(Below.refl _ _).alloc (Nat.le_refl _) _, h2 x hx⟩
/-- The last ones: a value that holds in every world is taken first. -/
theorem wpA_first {ops : Array Oper} {i : Nat} {oi : Oper} {v : Value} (hi : ops[i]? = some oi) (hsel : ∀ (j : Nat) (o : Oper) cs b, ops[j]? = some o → o.op ≠ .select cs b) (hQ : ∀ c a w, Q (.panic c) (a.put oi.dst v) w → Q (.panic c) a w) :
    ∀ (n : Nat) (l : Array Bool) (a : Act) (w : World), (∀ j oj, ops[j]? = some oj → j ≠ i → l.getD j true = false → (∀ e ∈ oj.after, Region.binds md e = true → e.on ≠ i) → oi.apart ops oj = true) →
      i ∈ Region.ready md ops l → Region.wanted oi (yielded ops a.tmps) = true → (∀ x, (execOp a.eval oi).run P x = .ok (.value v) x) → wpAny P md ops Q n (l.setIfInBounds i true) (a.put oi.dst v) w → wpAny P md ops Q (n + 1) l a w := by
  intro n
  induction n with
  | zero =>
    intro l a w _ hr hw hy H
    refine ⟨fun h => (by rw [h] at hr; cases hr), fun j hj => ?_⟩
    by_cases hji : j = i
    · subst hji
      unfold wpOp
      rw [hi]
      dsimp only
      rw [if_pos hw]
      refine Or.inl ?_
      unfold Oper.wp
      rw [hy w]
      exact H
    · have q := ready_mono hj hji
      rw [H.1] at q
      cases q
  | succ n ih =>
    intro l a w hfree hr hw hy H
    refine ⟨fun h => (by rw [h] at hr; cases hr), fun j hj => ?_⟩
    by_cases hji : j = i
    · subst hji
      unfold wpOp
      rw [hi]
      dsimp only
      rw [if_pos hw]
      refine Or.inl ?_
      unfold Oper.wp
      rw [hy w]
      exact H
    · obtain ⟨hun, oj, hoj, -⟩ := mem_ready.1 hj
      have hap := hfree j oj hoj hji hun (ready_free hr hj hoj)
      have h3 := (Oper.apart_spec hap).2.2
      have q := op_frame hoj (wpOp_putIf (S := fun _ => False) hoj hap (fun cs b => hsel i oi cs b hi) (fun cs b => hsel j oj cs b hoj) hQ (Or.inl ⟨hw, fun _ hf => hf.elim⟩) (H.2 j (ready_mono hj hji)))
      refine wpOp_mono ?_ q
      have step : ∀ (b : Act) (y : World), execOp b.eval oi = execOp a.eval oi → Region.wanted oi (yielded ops b.tmps) = Region.wanted oi (yielded ops a.tmps) → wpAny P md ops Q n ((l.setIfInBounds i true).setIfInBounds j true) (b.put oi.dst v) y → wpAny P md ops Q (n + 1) (l.setIfInBounds j true) b y := fun b y e1 e2 hk => by
        refine ih (l.setIfInBounds j true) b y (fun k ok hk hki hku hno => hfree k ok hk hki ?_ hno) (ready_mono hr (Ne.symm hji)) (by rw [e2]; exact hw) (fun x => by rw [e1]; exact hy x) ?_
        · by_cases hjk : j = k
          · subst hjk; exact hun
          · rw [getD_set_ne true hjk] at hku; exact hku
        · rw [Array.setIfInBounds_comm _ _ hji]
          exact hk
      rintro b y ⟨⟨u, rfl | ⟨f, rfl⟩⟩, -, hk⟩
      · exact step _ _ (execOp_put oi (fun cs b => hsel i oi cs b hi) a oj.dst u h3) (wanted_put oi a oj.dst u h3) hk
      · exact step _ _ (execOp_put oi (fun cs b => hsel i oi cs b hi) { a with defers := f :: a.defers } oj.dst u h3) (wanted_put oi { a with defers := f :: a.defers } oj.dst u h3) hk
theorem wpA_val {L r : List Oper} {i : Nat} {oi : Oper} {v : Value} {n : Nat} {l : Array Bool} {a : Act} {w : World} (hi : L.drop i = oi :: r) (hs : Region.noSelect L.toArray = true) (hf : Region.free md L.toArray l i = true) (hr : (Region.ready md L.toArray l).contains i = true)
    (hQ : ∀ c a w, Q (.panic c) (a.put oi.dst v) w → Q (.panic c) a w) (hw : Region.wanted oi (yielded L.toArray a.tmps) = true) (hy : ∀ x, (execOp a.eval oi).run P x = .ok (.value v) x)
    (h : wpAny P md L.toArray Q n (l.setIfInBounds i true) (a.put oi.dst v) w) : wpAny P md L.toArray Q (n + 1) l a w :=
  wpA_first (at_drop hi) (Region.noSelect_spec hs) hQ n l a w (Region.free_spec (at_drop hi) hf) (by simpa using hr) hw hy h
/-- The last one: a store. -/
theorem wpA_store {L r : List Oper} {i : Nat} {oi : Oper} {n : Nat} {l : Array Bool} {a : Act} {w y : World} (hr : Region.ready md L.toArray l = [i]) (hi : L.drop i = oi :: r) (hw : Region.wanted oi (yielded L.toArray a.tmps) = true) (hy : (execOp a.eval oi).run P w = .ok .skip y)
    (hd : Region.ready md L.toArray (l.setIfInBounds i true) = []) (h : Q .normal (a.put oi.dst undef) y) : wpAny P md L.toArray Q (n + 1) l a w := by
  refine ⟨fun h => (by rw [hr] at h; cases h), fun j hj => ?_⟩
  rw [hr, List.mem_singleton] at hj
  subst hj
  unfold wpOp
  rw [at_drop hi]
  dsimp only
  rw [if_pos hw]
  refine Or.inl ?_
  unfold Oper.wp
  rw [hy]
  cases n with
  | zero => exact ⟨hd, h⟩
  | succ n => exact ⟨fun _ => h, by rw [hd]; simp⟩
end
end Go.Proofs.Ythfmjjaollekiaa
/- CpA: A row of nodes that is made node by node, by append, each with its pieces in a row of its own. -/
namespace Go.Proofs.Ythfmjjaollekiaa
set_option maxRecDepth 100000
open Go.RowKit

theorem wc_by {w w' : World} {g : Nat} {q : Option Nat} {L : List Value} (h : WCells w g L) (hg : w.grownBy w' q) (hq : q ≠ some g) : WCells w' g L := by
  have hk := hg.block g h.1 (fun e => hq e.symm)
  refine ⟨Nat.lt_of_lt_of_le h.1 hg.size, fun i v hv => ?_⟩
  have h1 := h.2 i v hv
  simp only [World.cell?, World.frozen?, hk] at h1 ⊢
  exact h1
/-- Where the making of a row of nodes stands. -/
structure NB (w : World) (B : Nat) (v : Value) (rs : List NR) : Prop where
  own : w.ownsRow B 30 9 v rs.length (ncs rs)
  rows : ∀ r ∈ rs, w.ownsRow B 59 2 (.slice r.loc r.nd.pieces.length r.cap) r.nd.pieces.length (pcs r.nd.pieces)
  apart : rs.Pairwise fun r s => r.loc ≠ none → s.loc ≠ none → r.loc ≠ s.loc
/-- A row of its own that is not empty: its block. -/
theorem own_blk {w : World} {B t sz n : Nat} {v : Value} {L : List Value} (h : w.ownsRow B t sz v n L) (hn : n ≠ 0) : ∃ g cap cur, v = .slice (some ⟨g, 0, none⟩) n cap ∧ B ≤ g ∧ g < w.heap.size ∧ w.heap[g]? = some (.cells cur t (0, 0)) := by
  rcases h.2 with ⟨_, h0⟩ | ⟨g, cap, cur, e, h1, h2, _⟩
  · exact absurd h0 hn
  · exact ⟨g, cap, cur, e, h1, (Array.getElem?_eq_some_iff.1 h2).1, h2⟩
theorem own_blk' {w : World} {B t sz n g : Nat} {v : Value} {L : List Value} (h : w.ownsRow B t sz v n L) (e : v.ownBlock = some g) : ∃ cur, w.heap[g]? = some (.cells cur t (0, 0)) := by
  rcases h.2 with ⟨rfl, _⟩ | ⟨g', cap, cur, rfl, _, h2, _⟩
  · cases e
  · cases e; exact ⟨cur, h2⟩
theorem own_slice {w : World} {B n sz : Nat} {t : TypeId} {v : Value} {L : List Value} (h : w.ownsRow B t sz v n L) : ∃ a c, v = .slice a n c := by
  rcases h.2 with ⟨rfl, h0⟩ | ⟨g, cap, cur, e, _⟩
  · exact ⟨none, 0, by rw [h0]⟩
  · exact ⟨_, _, e⟩
theorem own_lower {w : World} {B C n sz : Nat} {t : TypeId} {v : Value} {L : List Value} (h : w.ownsRow B t sz v n L) (hC : C ≤ B) : w.ownsRow C t sz v n L := by
  refine ⟨h.1, ?_⟩
  rcases h.2 with q | ⟨g, cap, cur, e, h1, h2⟩
  · exact .inl q
  · exact .inr ⟨g, cap, cur, e, Nat.le_trans hC h1, h2⟩
theorem NB.nil (w : World) (B : Nat) : NB w B (.slice none 0 0) [] := ⟨by simpa [ncs] using World.ownsRow_nil w B 30 9, by simp, List.Pairwise.nil⟩
theorem NB.grown {w w' : World} {B : Nat} {v : Value} {rs : List NR} {q : Option Nat} (h : NB w B v rs) (hg : w.grownBy w' q) (hq : ∀ k, q = some k → k < B) : NB w' B v rs := by
  refine ⟨h.own.kept hg ?_, fun r hr => (h.rows r hr).kept hg ?_, h.apart⟩
  · cases e : v.ownBlock with
    | none => exact .inl rfl
    | some k => exact .inr fun e2 => by have := hq k e2.symm; have := (h.own.lt k e).1; omega
  · cases e : (Value.slice r.loc r.nd.pieces.length r.cap).ownBlock with
    | none => exact .inl rfl
    | some k => exact .inr fun e2 => by have := hq k e2.symm; have := ((h.rows r hr).lt k e).1; omega
theorem NB.below {w w' : World} {B : Nat} {v : Value} {rs : List NR} (h : NB w B v rs) (hb : Below w.heap.size w w') : NB w' B v rs :=
  h.grown (q := none) ⟨hb.os, hb.tape, hb.output, hb.size, fun k hk _ => hb.block k hk⟩ (fun k e => by cases e)
theorem NB.setBox {w : World} {B : Nat} {v : Value} {rs : List NR} (h : NB w B v rs) (g i : Nat) (x : Value) (hg : g < B) : NB (w.setCell ⟨g, i, none⟩ x) B v rs :=
  h.grown (gb_set' w g i x) (fun k e => by cases e; exact hg)
/-- A box that lies beyond is written. -/
theorem NB.setOut {w : World} {B : Nat} {v : Value} {rs : List NR} {c : Array Value} {t : TypeId} {fr : Nat × Nat} (h : NB w B v rs) (g i : Nat) (x : Value) (hg : w.heap[g]? = some (.cells c t fr)) (ht : t ≠ 59) (hv : v.ownBlock ≠ some g) : NB (w.setCell ⟨g, i, none⟩ x) B v rs := by
  refine ⟨h.own.kept (gb_set' w g i x) (.inr hv), fun r hr => (h.rows r hr).kept (gb_set' w g i x) (.inr fun e => ?_), h.apart⟩
  obtain ⟨cur, h2⟩ := own_blk' (h.rows r hr) e
  rw [hg] at h2
  simp at h2
  exact ht h2.2.1
/-- A node more. -/
theorem NB.snoc {w w1 w2 : World} {B : Nat} {v v' : Value} {rs : List NR} {r : NR} (h : NB w B v rs) (hb : Below w.heap.size w w1) (hp : w1.ownsRow B 59 2 (.slice r.loc r.nd.pieces.length r.cap) r.nd.pieces.length (pcs r.nd.pieces))
    (hnew : r.loc ≠ none → ∀ s ∈ rs, s.loc ≠ none → s.loc ≠ r.loc) (ho : w2.ownsRow B 30 9 v' (rs.length + 1) (ncs rs ++ ncells r)) (hg : w1.grownBy w2 v.ownBlock) : NB w2 B v' (rs ++ [r]) := by
  have hN := h.below hb
  have keep : ∀ s : NR, w1.ownsRow B 59 2 (.slice s.loc s.nd.pieces.length s.cap) s.nd.pieces.length (pcs s.nd.pieces) → w2.ownsRow B 59 2 (.slice s.loc s.nd.pieces.length s.cap) s.nd.pieces.length (pcs s.nd.pieces) := fun s hr => by
    refine hr.kept hg ?_
    cases e : (Value.slice s.loc s.nd.pieces.length s.cap).ownBlock with
    | none => exact .inl rfl
    | some k =>
      refine .inr fun e2 => ?_
      obtain ⟨c1, h1⟩ := own_blk' hr e
      obtain ⟨c2, h2⟩ := own_blk' hN.own e2.symm
      rw [h1] at h2
      simp at h2
  refine ⟨?_, fun s hs => ?_, ?_⟩
  · have e : ncs (rs ++ [r]) = ncs rs ++ ncells r := by simp [ncs]
    rw [e, List.length_append, List.length_singleton]
    exact ho
  · rcases List.mem_append.1 hs with q | q
    · exact keep s (hN.rows s q)
    · rw [List.mem_singleton.1 q]
      exact keep r hp
  · refine List.pairwise_append.2 ⟨h.apart, List.pairwise_singleton _ _, fun s hs t ht h1 h2 => ?_⟩
    rw [List.mem_singleton.1 ht] at h2 ⊢
    exact hnew h2 s hs h1
theorem own_loc {w : World} {B t sz n c : Nat} {a : Option Addr} {L : List Value} (h : w.ownsRow B t sz (.slice a n c) n L) (hn : n ≠ 0) : a ≠ none := by
  obtain ⟨g, cap, cur, e, _⟩ := own_blk h hn
  simp at e
  rw [e.1]
  simp
theorem NB.fin {w : World} {B : Nat} {v : Value} {rs : List NR} {nx : Int} (h : NB w B v rs) : TAns w (.agg #[v, .int .i64 nx]) ⟨nds rs, nx⟩ B w.heap.size := by
  have hown := h.own
  rcases hown.2 with ⟨rfl, h0⟩ | ⟨g, cap, cur, rfl, hB, hcur, hn, _⟩
  · have : rs = [] := List.eq_nil_of_length_eq_zero h0
    subst this
    exact ⟨none, 0, [], rfl, rfl, Nat.le_refl _, .inl rfl⟩
  · refine ⟨_, cap, rs, rfl, rfl, hn, .inr ⟨g, rfl, ?_⟩⟩
    refine ⟨own_wcells h.own, hB, (Array.getElem?_eq_some_iff.1 hcur).1, fun r hr => ?_, ?_⟩
    · by_cases hp : r.nd.pieces = []
      · exact .inl (by show pcs r.nd.pieces = []; rw [hp]; rfl)
      · have hr' := h.rows r hr
        obtain ⟨b, cp, c2, e1, q1, q2, q3⟩ := own_blk hr' (by simpa using hp)
        have e2 : r.loc = some ⟨b, 0, none⟩ := (by simpa using e1 : r.loc = some ⟨b, 0, none⟩ ∧ r.cap = cp).1
        refine .inr ⟨b, e2, q1, q2, fun e => ?_, ?_⟩
        · rw [e, hcur] at q3
          simp at q3
        · rw [e2] at hr'
          exact own_wcells hr'
    · have ha := List.pairwise_iff_getElem.1 h.apart
      refine List.pairwise_iff_getElem.2 (fun i j hi hj hij h1 h2 => ha i j hi hj hij ?_ ?_)
      · exact own_loc (h.rows _ (List.getElem_mem hi)) (fun e => h1 (by show pcs rs[i].nd.pieces = []; rw [List.eq_nil_of_length_eq_zero e]; rfl))
      · exact own_loc (h.rows _ (List.getElem_mem hj)) (fun e => h2 (by show pcs rs[j].nd.pieces = []; rw [List.eq_nil_of_length_eq_zero e]; rfl))
end Go.Proofs.Ythfmjjaollekiaa
/- CpB: The model's copy of a tree. -/
namespace Go.Proofs.Ythfmjjaollekiaa
set_option maxRecDepth 100000
open Go.RowKit
attribute [local go_sem ↓] Go.wp_at_zero Go.wp_at_succ

theorem infoPieceG : (Try.prog.info? 59).map (fun i => (i.zero, i.size, i.bytes)) = some (some (.agg #[.int .i64 0, .int .i64 0]), 2, 16) := by kernel_rfl
/-- 'append' of nothing. -/
theorem wpList_append_nothing {P : Program} (w : World) {ops : Array Oper} {rest : List Oper} {o : Oper} {a : Act} {Q : Exit → Act → World → Prop} (hg : o.guard = none) (s x : Operand) (t : TypeId) (hop : o.op = .call { callee := .builtin .append, args := #[s, x], argTypes := #[t, t] })
    (sv xv : Value) (hs : a.eval s = sv) (hx : a.eval x = xv) (hrun : ∀ ty, (Builtin.append_ #[t, t] ty #[sv, xv]).run P w = .ok sv w) (hK : wpList P ops Q rest (a.put o.dst sv) w) : wpList P ops Q (o :: rest) a w := by
  refine wpList_plain hg fun K' hK' => ?_
  unfold Oper.wp
  simp [execOp, hop, resolve, invoke, builtin, hs, hx, hrun, Result.andThen]
  exact hK' _ _ hK
/-- While a tree is copied: the boxes, and the row that is made. -/
structure CP (w W : World) (a : Option Addr) (n cap : Nat) (nx : Int) (v : Value) (gs : List NR) : Prop where
  bel : Below w.heap.size w W
  b1 : WCells W w.heap.size [.slice a n cap, .int .i64 nx]
  b2 : WCells W (w.heap.size + 1) [.slice none 0 0, .int .i64 0]
  b3 : WCells W (w.heap.size + 1 + 1) [v, .int .i64 nx]
  nb : NB W (w.heap.size + 3) v gs
theorem CP.below {w W W' : World} {a : Option Addr} {n cap : Nat} {nx : Int} {v : Value} {gs : List NR} (h : CP w W a n cap nx v gs) (hb : Below W.heap.size W W') : CP w W' a n cap nx v gs :=
  ⟨h.bel.trans (hb.mono h.bel.size), h.b1.grow hb, h.b2.grow hb, h.b3.grow hb, h.nb.below hb⟩
theorem CP.setX {w V : World} {a : Option Addr} {n cap : Nat} {nx : Int} {v : Value} {gs : List NR} {c : Array Value} {fr : Nat × Nat} (h : CP w V a n cap nx v gs) (g i : Nat) (x : Value) (hg : V.heap[g]? = some (.cells c 30 fr)) (hv : v.ownBlock ≠ some g) (h3 : w.heap.size + 3 ≤ g) : CP w (V.setCell ⟨g, i, none⟩ x) a n cap nx v gs :=
  ⟨h.bel.setCell (p := ⟨g, i, none⟩) (by show w.heap.size ≤ g; omega) _, h.b1.other _ _ (by show w.heap.size ≠ g; omega), h.b2.other _ _ (by show w.heap.size + 1 ≠ g; omega), h.b3.other _ _ (by show w.heap.size + 1 + 1 ≠ g; omega), h.nb.setOut g i x hg (by decide) hv⟩
/-- What a copy is: nodes and pieces in rows of its own. -/
def CpPost (T : TM) (w : World) (e : Ending) (w' : World) : Prop := ∃ (a : Option Addr) (cap : Nat) (rs : List NR), e = .returned (.agg #[.slice a rs.length cap, .int .i64 T.next]) ∧ nds rs = T.nodes ∧ NB w' w.heap.size (.slice a rs.length cap) rs ∧ Below w.heap.size w w'
theorem CpPost.tr {T : TM} {w : World} {e : Ending} {w' : World} (h : CpPost T w e w') : TrPost T w e w' := by
  obtain ⟨a, cap, rs, rfl, hr, hn, hb⟩ := h
  obtain ⟨nodes, next⟩ := T
  dsimp only at hr ⊢
  subst hr
  exact ⟨_, rfl, hn.fin, hb⟩
theorem NB.low {w : World} {B C : Nat} {v : Value} {rs : List NR} (h : NB w B v rs) (hC : C ≤ B) : NB w C v rs := ⟨own_lower h.own hC, fun r hr => own_lower (h.rows r hr) hC, h.apart⟩
set_option maxRecDepth 100000 in
set_option maxHeartbeats 2000000 in
theorem specCopyB {w : World} {v : Value} {T : TM} {lo hi : Nat} (h : TSee w v T lo hi) (hf : NFit T) : Calls Try.prog 56 #[v] w fun e w' => CpPost T w e w' := by
  obtain ⟨a, cap, rs, rfl, hr, hm⟩ := h
  have hrl : rs.length = T.nodes.length := by rw [← hr, nds_len]
  have hl : rs.length ≤ 1048576 := by unfold NFit at hf; omega
  have hp : ∀ r ∈ rs, r.nd.pieces.length ≤ 1048576 := fun r hx => by
    have := nsum_mem (ns := T.nodes) (n := r.nd) (by rw [← hr]; exact List.mem_map.2 ⟨r, hx, rfl⟩)
    unfold NFit at hf
    omega
  obtain ⟨nds0, nx⟩ := T
  dsimp only at *
  subst hr
  obtain ⟨n, hn⟩ : ∃ n, n = rs.length := ⟨_, rfl⟩
  rw [← hn] at hl ⊢
  have HM := Shut.mk hm
  have HN := Shut.mk hn
  have HP := Shut.mk hp
  obtain ⟨i0, hin, hz0, hz1, hz2⟩ := info_parts infoNode
  obtain ⟨j0, hjn, hy0, hy1, hy2⟩ := info_parts infoPieceG
  clear hm hp hf hrl hn
  go_enter Try.func56, Try.ntmps56
  go_upto_region 2 with fail
  refine wp_shade (fun W => CP w W a n cap nx (.slice none 0 0) []) ?_ ?_
  · have ht := Tri.new w #[.slice a n cap, .int .i64 nx] #[.slice none 0 0, .int .i64 0] #[.slice none 0 0, .int .i64 nx] 26 26 26
    exact ⟨ht.bel, ht.b1, ht.b2, ht.b3, NB.nil _ _⟩
  intro W hW
  have HW := Shut.mk hW
  clear hW
  go_wp2_with fail
  go_loopw [4] (fun i wr => ∃ (k : Nat) (gs : List NR) (vv : Value), i = .int .i64 k ∧ k ≤ n ∧ Shut (gs.length = k ∧ nds gs = nds (rs.take k)) ∧ Shut (CP w wr a n cap nx vv gs)) (fun i _ => n - (intOf i).toNat)
  case atStart => exact ⟨0, [], _, rfl, Nat.zero_le _, ⟨rfl, by simp⟩, HW⟩
  case round =>
    clear HW
    obtain ⟨k, gs, vv, rfl, hk, HG, hW⟩ := hrel
    have x0 := (hW.out.b1.2 0 _ rfl).1
    have lx := hW.out.b1.1
    by_cases hlt : k < n
    · have hkr : k < rs.length := by rw [← HN.out]; exact hlt
      obtain ⟨b, off, rfl, lb, hc⟩ := TR.nat HM.out (by omega)
      have hnk := (hc k hkr).below hW.out.bel lb
      have hpr := (HM.out.2 _ (List.getElem_mem hkr)).below hW.out.bel
      have hpl := HP.out _ (List.getElem_mem hkr)
      obtain ⟨r, hre⟩ : ∃ r, r = rs[k] := ⟨_, rfl⟩
      rw [← hre] at hnk hpr hpl
      have HRE := Shut.mk hre
      have HPR : Shut (RRow wr r.loc (pcs r.nd.pieces) lo hi) := ⟨hpr⟩
      obtain ⟨c0, c1, c2, c3, c4, c5, c6, c7, c8⟩ := hnk
      have lb' : b < wr.heap.size := Nat.lt_of_lt_of_le lb hW.out.bel.size
      have k0 : (0 : Int) ≤ (k : Int) := by omega
      have k1 : (k : Int) < (n : Int) := by omega
      clear hc hre hpr
      obtain ⟨⟨id, parent, name, dir, schema, quota, len, pieces, writer⟩, loc, cp⟩ := r
      dsimp only at *
      obtain ⟨pn, hpn⟩ : ∃ pn, pn = pieces.length := ⟨_, rfl⟩
      rw [← hpn] at c7 hpl
      have HPN := Shut.mk hpn
      clear hpn
      go_upto_region 6 with fail
      refine wp_shade (fun V => CP w V (some ⟨b, off, none⟩) n cap nx vv gs ∧ WCells V wr.heap.size [.int .i64 id, .int .i64 parent, .string name, .bool dir, .int .i64 schema, .int .i64 quota, .int .i64 len, .slice loc pn cp, .int .i64 writer] ∧ V.heap[wr.heap.size]? = some (.cells #[.int .i64 id, .int .i64 parent, .string name, .bool dir, .int .i64 schema, .int .i64 quota, .int .i64 len, .slice loc pn cp, .int .i64 writer] 30 (0, 0)) ∧ RRow V loc (pcs pieces) lo hi ∧ V.heap.size = wr.heap.size + 1) ⟨hW.out.below ((Below.refl _ _).alloc (Nat.le_refl _) _), wcells_new wr #[.int .i64 id, .int .i64 parent, .string name, .bool dir, .int .i64 schema, .int .i64 quota, .int .i64 len, .slice loc pn cp, .int .i64 writer] 30, heap_alloc_new wr _, HPR.out.below ((Below.refl _ _).alloc (Nat.le_refl _) _), by simp⟩ ?_
      rintro V ⟨hV, hXB, hXT, hPV, hsV⟩
      have HV := Shut.mk (And.intro hV (And.intro hXB (And.intro hXT (And.intro hPV hsV))))
      have y7 := (hXB.2 7 _ rfl).1
      have f7 := (hXB.2 7 _ rfl).2
      have lxb := hXB.1
      have hsz3 : w.heap.size + 3 ≤ V.heap.size := by have := hV.b3.1; omega
      have HVB : Shut (∀ q, vv.ownBlock = some q → q < wr.heap.size) := ⟨fun q e => (hW.out.nb.own.lt q e).2⟩
      have HGB : Shut (∀ s ∈ gs, ∀ q, s.loc = some ⟨q, 0, none⟩ → q < wr.heap.size) := ⟨fun s hs q e => by
        have h1 := hW.out.nb.rows s hs
        rw [e] at h1
        exact (h1.lt q rfl).2⟩
      have hsw3 : w.heap.size + 3 ≤ wr.heap.size := by have := hW.out.b3.1; omega
      clear hV hXB hXT hPV hsV c0 c1 c2 c3 c4 c5 c6 c7 c8 x0 HPR
      go_cut [5] from 21 to 25 (fun u wx => u = .pointer (some ⟨wr.heap.size, 0, none⟩) ∧ Shut (∃ (loc' : Option Addr) (cp' : Nat), CP w wx (some ⟨b, off, none⟩) n cap nx vv gs ∧ WCells wx wr.heap.size [.int .i64 id, .int .i64 parent, .string name, .bool dir, .int .i64 schema, .int .i64 quota, .int .i64 len, .slice loc' pn cp', .int .i64 writer] ∧ (wx.ownsRow (w.heap.size + 3) 59 2 (.slice loc' pn cp') pn (pcs pieces) ∧ ∀ s ∈ gs, s.loc ≠ loc')))
      case first =>
        by_cases hpe : pieces = []
        · have hap : ∀ (W : World) (g : Addr), ∀ ty, (Builtin.append_ #[28, 28] ty #[.slice (some g) 0 0, .slice loc 0 cp]).run Try.prog W = .ok (.slice (some g) 0 0) W := fun W g ty => by
            cases loc with
            | none => exact run_append_nothing W _ _ _ _ j0 Try.underlying28 hjn (some g) 0 0 (Nat.le_refl _) _ (Src.ofNil W Try.underlying28 cp)
            | some q => exact run_append_nothing W _ _ _ _ j0 Try.underlying28 hjn (some g) 0 0 (Nat.le_refl _) _ (Src.ofSlice W Try.underlying28 q 0 cp [] (by simp) (by simp) (by simp))
          subst hpe
          have hp0 : pn = 0 := HPN.out
          subst hp0
          have HAP := Shut.mk hap
          clear hap
          go_wp2_with (at_builtin; refine wpList_append_nothing _ rfl _ _ 28 rfl _ _ rfl rfl (HAP.out _ _) ?_)
          go_meet
          case rel =>
            obtain ⟨q1, q2, q3, q4, q5⟩ := HV.out
            have hs1 := q1.setX wr.heap.size 7 (.slice (some ⟨V.heap.size, 0, none⟩) 0 0) q3 (fun e => by have := HVB.out _ e; omega) hsw3
            have hs2 := q2.set 7 (.slice (some ⟨V.heap.size, 0, none⟩) 0 0) (by simp)
            have hm0 := World.ownsRow_made (e := 59) (size := 2) (base := w.heap.size + 3) (V.setCell ⟨wr.heap.size, 7, none⟩ (.slice (some ⟨V.heap.size, 0, none⟩) 0 0)) #[] 0 (by simp; omega) (by decide) rfl
            have hsame : (V.setCell ⟨wr.heap.size, 7, none⟩ (.slice (some ⟨V.heap.size, 0, none⟩) 0 0)).heap.size = V.heap.size := by simp
            rw [hsame] at hm0
            exact ⟨rfl, ⟨some ⟨V.heap.size, 0, none⟩, 0, hs1.below ((Below.refl _ _).alloc (Nat.le_refl _) _), hs2.alloc _, hm0, fun s hs e => by have := HGB.out s hs _ e; omega⟩⟩
        · obtain ⟨pb, poff, rfl, _, _, lpb, hpc⟩ := HV.out.2.2.2.1 (by have h0 : pieces.length ≠ 0 := (by simpa using hpe); rw [pcs_len]; omega)
          have HPC : Shut (∀ j u, (pcs pieces)[j]? = some u → V.cell? ⟨pb, poff + j, none⟩ = some u) := ⟨hpc⟩
          have HPE := Shut.mk hpe
          have hmade := World.ownsRow_made (e := 59) (size := 2) (base := V.heap.size) V #[] 0 (Nat.le_refl _) (by decide) rfl
          clear hpc hpe
          go_wp2_with (at_builtin; refine wpList_append_own _ rfl _ _ 28 rfl V.heap.size 59 j0 _ 2 16 Try.underlying28 hjn hy0 hy1 hy2 rfl (by decide) _ 0 [] rfl hmade ⟨pb, poff, none⟩ pn cp (pcs pieces) rfl ?c0 ?c1 ?c2 ?c3 ?c4 ?c5 ?_)
          case c0 => rw [pcs_len, HPN.out]
          case c1 =>
            intro j u hu
            rw [show (Addr.add ⟨pb, poff, none⟩ j) = ⟨pb, poff + j, none⟩ by unfold Addr.add; split <;> simp [*]]
            exact (((Below.refl _ _).alloc (Nat.le_refl _) _ : Below V.heap.size V (V.alloc (.cells #[] 59))).cell (p := ⟨pb, poff + j, none⟩) lpb).trans (HPC.out j u hu)
          case c2 =>
            intro u hu
            obtain ⟨y, _, hy⟩ := List.mem_flatMap.1 hu
            simp [pcells] at hy
            rcases hy with rfl | rfl <;> rfl
          case c3 => unfold maxLen; omega
          case c4 => omega
          case c5 => simp
          intro v' w10 ho10 hgrow _
          obtain ⟨q1, q2, q3, q4, q5⟩ := HV.out
          have hpn0 : pn ≠ 0 := fun e => HPE.out (List.eq_nil_of_length_eq_zero (HPN.out.symm.trans e))
          obtain ⟨pg, pcap, pcur, rfl, hpg, lpg, hpt⟩ := own_blk ho10 hpn0
          have hb10 : Below V.heap.size V w10 := ((Below.refl _ _).alloc (Nat.le_refl _) _).grown hgrow (by simp) (fun q hq => by cases hq; exact Nat.le_refl _)
          have hc10 := q1.below hb10
          have hx10 := q2.grow hb10
          have ht10 : w10.heap[wr.heap.size]? = _ := (hb10.block _ (by omega)).trans q3
          have z7 := (hx10.2 7 _ rfl).1
          have zf7 := (hx10.2 7 _ rfl).2
          have lxb10 := hx10.1
          have hset := hc10.setX wr.heap.size 7 (.slice (some ⟨pg, 0, none⟩) pn pcap) ht10 (fun e => by have := HVB.out _ e; omega) hsw3
          have hsx := hx10.set 7 (.slice (some ⟨pg, 0, none⟩) pn pcap) (by simp)
          have hpw := own_lower (ho10.kept (gb_set' w10 wr.heap.size 7 (.slice (some ⟨pg, 0, none⟩) pn pcap)) (.inr fun e => by simp [Value.ownBlock] at e; omega)) hsz3
          have HS := Shut.mk (And.intro hset (And.intro hsx (And.intro hpw hpg)))
          clear ho10 hgrow hc10 hx10 ht10 hset hsx hpw q1 q2 q3 q4 hb10 hmade hpt
          go_wp2_with fail
          go_meet
          case rel =>
            refine ⟨rfl, ⟨some ⟨pg, 0, none⟩, pcap, HS.out.1, HS.out.2.1, HS.out.2.2.1, fun s hs e => ?_⟩⟩
            · have := HGB.out s hs pg e
              have := HS.out.2.2.2
              omega
      case rest =>
        obtain ⟨rfl, hR⟩ := hcut
        obtain ⟨loc', cp', hC, hX, hP'⟩ := hR.out
        have HC := Shut.mk (And.intro hC (And.intro hX hP'))
        have o0 := (hC.b3.2 0 _ rfl).1
        have o0f := (hC.b3.2 0 _ rfl).2
        have d0 := (hX.2 0 _ rfl).1
        have d1 := (hX.2 1 _ rfl).1
        have d2 := (hX.2 2 _ rfl).1
        have d3 := (hX.2 3 _ rfl).1
        have d4 := (hX.2 4 _ rfl).1
        have d5 := (hX.2 5 _ rfl).1
        have d6 := (hX.2 6 _ rfl).1
        have d7 := (hX.2 7 _ rfl).1
        have d8 := (hX.2 8 _ rfl).1
        have ho := hC.nb.own
        have hlg : gs.length = k := HG.out.1
        rw [hlg] at ho
        have hs3 : w.heap.size + 3 ≤ wc.heap.size := by have := hC.b3.1; have := hX.1; omega
        clear hC hX hP' hR hlg y7 f7 lxb hsz3 HV
        go_wp2_with (at_builtin; refine wpList_append_own _ rfl _ _ 24 rfl (w.heap.size + 3) 30 i0 _ 9 96 Try.underlying24 hin hz0 hz1 hz2 rfl (by decide) _ _ _ rfl (ho.alloc _) ⟨wc.heap.size, 0, none⟩ 1 1 [.int .i64 id, .int .i64 parent, .string name, .bool dir, .int .i64 schema, .int .i64 quota, .int .i64 len, .slice loc' pn cp', .int .i64 writer] rfl rfl (World.news_of_block (cs := #[.int .i64 id, .int .i64 parent, .string name, .bool dir, .int .i64 schema, .int .i64 quota, .int .i64 len, .slice loc' pn cp', .int .i64 writer]) (t := 30) (fr := (0, 0)) (heap_alloc_new wc _)) ?c2 ?c3 ?c4 ?c5 ?_)
        case c2 => simp [Value.oneCell']
        case c3 => unfold maxLen; omega
        case c4 => omega
        case c5 => first | omega | (simp; omega)
        intro v' w10 ho10 hgrow _
        obtain ⟨q1, q2, q3⟩ := HC.out
        obtain ⟨ng, ncap, ncur, rfl, hng, lng, hnt⟩ := own_blk ho10 (by omega)
        have hba : Below wc.heap.size wc (wc.alloc (.cells #[.int .i64 id, .int .i64 parent, .string name, .bool dir, .int .i64 schema, .int .i64 quota, .int .i64 len, .slice loc' pn cp', .int .i64 writer] 30)) := (Below.refl _ _).alloc (Nat.le_refl _) _
        have hnot : ∀ c, c < w.heap.size + 3 → vv.ownBlock ≠ some c := fun c hc e => by have := (q1.nb.own.lt c e).1; omega
        have hnb : NB w10 (w.heap.size + 3) (.slice (some ⟨ng, 0, none⟩) (k + 1) ncap) (gs ++ [⟨⟨id, parent, name, dir, schema, quota, len, pieces, writer⟩, loc', cp'⟩]) := by
          refine NB.snoc (r := ⟨⟨id, parent, name, dir, schema, quota, len, pieces, writer⟩, loc', cp'⟩) q1.nb hba ?_ (fun _ s hs _ => q3.2 s hs) ?_ hgrow
          · have := q3.1.alloc (.cells #[.int .i64 id, .int .i64 parent, .string name, .bool dir, .int .i64 schema, .int .i64 quota, .int .i64 len, .slice loc' pn cp', .int .i64 writer] 30)
            show World.ownsRow _ _ _ _ (.slice loc' pieces.length cp') pieces.length (pcs pieces)
            rw [← HPN.out]
            exact this
          · rw [HG.out.1]
            unfold ncells
            dsimp only
            rw [← HPN.out]
            exact ho10
        have hb10 : Below w.heap.size w w10 := (q1.bel.alloc q1.bel.size _).grown hgrow (by have := q1.bel.size; simp; omega) (fun q hq => by have := (q1.nb.own.lt q hq).1; omega)
        have e1 := wc_by (q1.b1.alloc (.cells #[.int .i64 id, .int .i64 parent, .string name, .bool dir, .int .i64 schema, .int .i64 quota, .int .i64 len, .slice loc' pn cp', .int .i64 writer] 30)) hgrow (hnot _ (by omega))
        have e2 := wc_by (q1.b2.alloc (.cells #[.int .i64 id, .int .i64 parent, .string name, .bool dir, .int .i64 schema, .int .i64 quota, .int .i64 len, .slice loc' pn cp', .int .i64 writer] 30)) hgrow (hnot _ (by omega))
        have e3 := wc_by (q1.b3.alloc (.cells #[.int .i64 id, .int .i64 parent, .string name, .bool dir, .int .i64 schema, .int .i64 quota, .int .i64 len, .slice loc' pn cp', .int .i64 writer] 30)) hgrow (hnot _ (by omega))
        have HN10 : Shut (CP w (w10.setCell ⟨w.heap.size + 1 + 1, 0, none⟩ (.slice (some ⟨ng, 0, none⟩) (k + 1) ncap)) (some ⟨b, off, none⟩) n cap nx (.slice (some ⟨ng, 0, none⟩) (k + 1) ncap) (gs ++ [⟨⟨id, parent, name, dir, schema, quota, len, pieces, writer⟩, loc', cp'⟩])) := ⟨hb10.setCell (p := ⟨w.heap.size + 1 + 1, 0, none⟩) (by show w.heap.size ≤ w.heap.size + 1 + 1; omega) _, e1.other _ _ (by show w.heap.size ≠ w.heap.size + 1 + 1; omega), e2.other _ _ (by show w.heap.size + 1 ≠ w.heap.size + 1 + 1; omega), e3.set 0 _ (by simp), hnb.setBox _ 0 _ (by omega)⟩
        have o1 := (e3.2 0 _ rfl).1
        have o1f := (e3.2 0 _ rfl).2
        clear ho10 hgrow q1 q2 q3 hba hnot hnb hb10 e1 e2 e3 hnt ho o0 o0f d0 d1 d2 d3 d4 d5 d6 d7 d8
        go_wp2_with fail
        go_roundw
        case rel =>
          refine ⟨k + 1, _, _, by go_num, by omega, ⟨by rw [List.length_append, HG.out.1]; rfl, ?_⟩, HN10⟩
          rw [nds_snoc, HG.out.2, List.take_succ_eq_append_getElem hkr, nds_snoc, ← HRE.out]
        case measure => simp [intOf]; omega
    · have k1 : ¬ (k : Int) < (n : Int) := by omega
      have hall : nds gs = nds rs := by
        have := HG.out.2
        rw [this, List.take_of_length_le (by have := HN.out; omega)]
      have HA := Shut.mk hall
      obtain ⟨va, vc, rfl⟩ := own_slice hW.out.nb.own
      have o0 := (hW.out.b3.2 0 _ rfl).1
      have o1 := (hW.out.b3.2 1 _ rfl).1
      have p0 := hW.out.b2.2 0 _ rfl
      have p1 := hW.out.b2.2 1 _ rfl
      obtain ⟨p0, p0f⟩ := p0
      obtain ⟨p1, p1f⟩ := p1
      have hlg : gs.length = k := HG.out.1
      rw [hlg] at o0
      have HFIN : Shut (WCells ((wr.setCell ⟨w.heap.size + 1, 0, none⟩ (.slice va k vc)).setCell ⟨w.heap.size + 1, 1, none⟩ (.int .i64 nx)) (w.heap.size + 1) [.slice va k vc, .int .i64 nx] ∧ NB ((wr.setCell ⟨w.heap.size + 1, 0, none⟩ (.slice va k vc)).setCell ⟨w.heap.size + 1, 1, none⟩ (.int .i64 nx)) (w.heap.size + 3) (.slice va k vc) gs ∧ Below w.heap.size w ((wr.setCell ⟨w.heap.size + 1, 0, none⟩ (.slice va k vc)).setCell ⟨w.heap.size + 1, 1, none⟩ (.int .i64 nx))) := by
        have hnb := hW.out.nb
        rw [hlg] at hnb
        exact ⟨(hW.out.b2.set 0 _ (by simp)).set 1 _ (by simp), (hnb.setBox _ 0 _ (by omega)).setBox _ 1 _ (by omega), (hW.out.bel.setCell (p := ⟨w.heap.size + 1, 0, none⟩) (by show w.heap.size ≤ w.heap.size + 1; omega) _).setCell (p := ⟨w.heap.size + 1, 1, none⟩) (by show w.heap.size ≤ w.heap.size + 1; omega) _⟩
      clear hall hlg
      go_wp2_with fail
      refine body_shade (fun W => WCells W (w.heap.size + 1) [.slice va k vc, .int .i64 nx] ∧ NB W (w.heap.size + 3) (.slice va k vc) gs ∧ Below w.heap.size w W) HFIN.out ?_
      rintro W8 ⟨h2, hnb, hb⟩
      have r0 := (h2.2 0 _ rfl).1
      have r1 := (h2.2 1 _ rfl).1
      refine bodyPost_ret (v := .agg #[.slice va k vc, .int .i64 nx]) (by simp [results, Try.results56, go_sem, r0, r1]) rfl ?_
      have hlg : gs.length = k := HG.out.1
      refine ⟨va, vc, gs, by rw [hlg], HA.out, ?_, hb⟩
      rw [hlg]
      exact hnb.low (by omega)
theorem specCopy {w : World} {v : Value} {T : TM} {lo hi : Nat} (h : TSee w v T lo hi) (hf : NFit T) : Calls Try.prog 56 #[v] w fun e w' => TrPost T w e w' := (specCopyB h hf).mono fun _ _ q => q.tr
end Go.Proofs.Ythfmjjaollekiaa
/- ApA: Boxes in memory; a node that is laid anew in a row of the call's own; what an answer of a tree and a number is. -/
namespace Go.Proofs.Ythfmjjaollekiaa
set_option maxRecDepth 100000
open Go.RowKit

/-- Boxes of one's own, each in its block. -/
structure MB (w0 w : World) (L : List (Nat × List Value)) : Prop where
  box : ∀ p ∈ L, WCells w p.1 p.2 ∧ w0.heap.size ≤ p.1
  dist : L.Pairwise fun p q => p.1 ≠ q.1
  bel : Below w0.heap.size w0 w
theorem MB.nil (w : World) : MB w w [] := ⟨by simp, List.Pairwise.nil, Below.refl _ _⟩
theorem MB.below {w0 w w' : World} {L : List (Nat × List Value)} (h : MB w0 w L) (hb : Below w.heap.size w w') : MB w0 w' L :=
  ⟨fun p hp => ⟨(h.box p hp).1.grow hb, (h.box p hp).2⟩, h.dist, h.bel.trans (hb.mono h.bel.size)⟩
theorem MB.new {w0 w : World} {L : List (Nat × List Value)} (h : MB w0 w L) (cs : Array Value) (t : TypeId) : MB w0 (w.alloc (.cells cs t)) ((w.heap.size, cs.toList) :: L) := by
  have hb : Below w.heap.size w (w.alloc (.cells cs t)) := (Below.refl _ _).alloc (Nat.le_refl _) _
  refine ⟨fun p hp => ?_, List.pairwise_cons.2 ⟨fun q hq => ?_, h.dist⟩, (h.below hb).bel⟩
  · rcases List.mem_cons.1 hp with rfl | hp
    · exact ⟨wcells_new w cs t, h.bel.size⟩
    · exact (h.below hb).box p hp
  · have := (h.box q hq).1.1
    show w.heap.size ≠ q.1
    omega
theorem MB.at {w0 w : World} {L : List (Nat × List Value)} (h : MB w0 w L) (i : Nat) {g : Nat} {X : List Value} (hi : L[i]? = some (g, X)) : WCells w g X ∧ w0.heap.size ≤ g := h.box _ (List.mem_of_getElem? hi)
theorem MB.put {w0 w : World} {L : List (Nat × List Value)} (h : MB w0 w L) (i : Nat) {g : Nat} {X : List Value} (hi : L[i]? = some (g, X)) (j : Nat) (v : Value) (hj : j < X.length) : MB w0 (w.setCell ⟨g, j, none⟩ v) (L.set i (g, X.set j v)) := by
  obtain ⟨hl, he⟩ := List.getElem?_eq_some_iff.1 hi
  have hd := List.pairwise_iff_getElem.1 h.dist
  have hk := h.at i hi
  refine ⟨fun p hp => ?_, List.pairwise_iff_getElem.2 fun a b ha hb hab => ?_, h.bel.setCell (p := ⟨g, j, none⟩) hk.2 _⟩
  · obtain ⟨k, hk', rfl⟩ := List.mem_iff_getElem.1 hp
    rw [List.length_set] at hk'
    rw [List.getElem_set]
    split
    · exact ⟨hk.1.set j v hj, hk.2⟩
    · rename_i hne
      refine ⟨(h.box _ (List.getElem_mem hk')).1.other _ _ ?_, (h.box _ (List.getElem_mem hk')).2⟩
      show L[k].1 ≠ g
      have e : L[i].1 = g := by rw [he]
      rcases Nat.lt_or_gt_of_ne hne with q | q
      · have := hd i k hl hk' q; omega
      · have := hd k i hk' hl q; omega
  · rw [List.length_set] at ha hb
    have := hd a b ha hb hab
    have e : L[i].1 = g := by rw [he]
    rw [List.getElem_set, List.getElem_set]
    split
    · rename_i h1
      subst h1
      split
      · omega
      · show g ≠ L[b].1; omega
    · split
      · rename_i h2
        subst h2
        show L[a].1 ≠ g
        omega
      · exact this
/-- A block that is none of the boxes is turned. -/
theorem MB.far {w0 w w' : World} {L : List (Nat × List Value)} {q : Option Nat} (h : MB w0 w L) (hg : w.grownBy w' q) (hq : ∀ p ∈ L, q ≠ some p.1) (h0 : ∀ k, q = some k → w0.heap.size ≤ k) : MB w0 w' L :=
  ⟨fun p hp => ⟨wc_by (h.box p hp).1 hg (hq p hp), (h.box p hp).2⟩, h.dist, h.bel.grown hg h.bel.size h0⟩
theorem ncs_set (rs : List NR) (k : Nat) (hk : k < rs.length) (f : Nat) (hf : f < 9) (x : Value) (r : NR) (hc : ncells r = (ncells rs[k]).set f x) : (ncs rs).set (k * 9 + f) x = ncs (rs.set k r) := by
  apply List.ext_getElem?
  intro i
  rw [List.getElem?_set]
  have hlen := ncs_len rs
  have hlen2 : (ncs (rs.set k r)).length = rs.length * 9 := by rw [ncs_len, List.length_set]
  by_cases hi : i < rs.length * 9
  · have e1 : i / 9 < rs.length := by omega
    have e2 : i % 9 < 9 := by omega
    have e3 : i = i / 9 * 9 + i % 9 := by omega
    have a1 : (ncs rs)[i]? = (ncells rs[i / 9])[i % 9]? := by
      rw [show (ncs rs)[i]? = (ncs rs)[i / 9 * 9 + i % 9]? by rw [← e3]]
      exact flat_get ncells_len rs (i / 9) e1 (i % 9) e2
    have a2 : (ncs (rs.set k r))[i]? = (ncells ((rs.set k r)[i / 9]'(by rw [List.length_set]; exact e1)))[i % 9]? := by
      rw [show (ncs (rs.set k r))[i]? = (ncs (rs.set k r))[i / 9 * 9 + i % 9]? by rw [← e3]]
      exact flat_get ncells_len (rs.set k r) (i / 9) (by rw [List.length_set]; exact e1) (i % 9) e2
    rw [a2, List.getElem_set]
    by_cases hik : k * 9 + f = i
    · have b1 : k = i / 9 := by omega
      have b2 : f = i % 9 := by omega
      rw [if_pos hik, if_pos b1, hc, ← b2, List.getElem?_set_self (by rw [ncells_len]; exact hf), if_pos (by rw [hlen]; omega)]
    · rw [if_neg hik, a1]
      by_cases b1 : k = i / 9
      · rw [if_pos b1, hc, List.getElem?_set_ne (by omega)]
        congr 2
        exact (getElem_congr_idx b1).symm
      · rw [if_neg b1]
  · rw [if_neg (by omega), List.getElem?_eq_none (by omega), List.getElem?_eq_none (by omega)]
theorem own_zero {w : World} {B n c sz : Nat} {t : TypeId} {q : Addr} {L : List Value} (h : w.ownsRow B t sz (.slice (some q) n c) n L) : q = ⟨q.block, 0, none⟩ := by
  rcases h.2 with ⟨e, _⟩ | ⟨g, cap, cur, e, _⟩
  · cases e
  · simp at e
    rw [e.1]
/-- A piece more at a node: its row has grown, and its slice is laid anew. -/
theorem NB.grow {w w5 : World} {B n cap g k gg cap1 : Nat} {rs : List NR} {r : NR} {o : Obj} {new : PM} (h : NB w B (.slice (some ⟨g, 0, none⟩) n cap) rs) (hn : rs.length = n) (hk : rs[k]? = some r) (hgrow : ((w.alloc o).drew).grownBy w5 (Value.slice r.loc r.nd.pieces.length r.cap).ownBlock)
    (ho : w5.ownsRow B 59 2 (.slice (some ⟨gg, 0, none⟩) (r.nd.pieces.length + 1) cap1) (r.nd.pieces.length + 1) (pcs r.nd.pieces ++ pcells new)) (hat : (Value.slice r.loc r.nd.pieces.length r.cap).ownBlock = some gg ∨ gg = w.heap.size + 1) :
    NB (w5.setCell ⟨g, k * 9 + 7, none⟩ (.slice (some ⟨gg, 0, none⟩) (r.nd.pieces.length + 1) cap1)) B (.slice (some ⟨g, 0, none⟩) n cap) (rs.set k ⟨{ r.nd with pieces := r.nd.pieces ++ [new] }, some ⟨gg, 0, none⟩, cap1⟩) := by
  subst hn
  obtain ⟨hk', er⟩ := List.getElem?_eq_some_iff.1 hk
  subst er
  have hba : Below w.heap.size w (w.alloc o).drew := ((Below.refl _ _).alloc (Nat.le_refl _) _).drew
  have hN := h.below hba
  have hlt : ∀ s ∈ rs, ∀ q, s.loc = some q → q.block < w.heap.size := fun s hs q e => ((h.rows s hs).lt q.block (by rw [e]; rfl)).2
  obtain ⟨cg, hcg⟩ := own_blk' hN.own (show (Value.slice (some ⟨g, 0, none⟩) rs.length cap).ownBlock = some g from rfl)
  have hgo : (Value.slice rs[k].loc rs[k].nd.pieces.length rs[k].cap).ownBlock ≠ some g := fun e => by
    obtain ⟨c1, h1⟩ := own_blk' (hN.rows _ (List.getElem_mem hk')) e
    rw [hcg] at h1
    simp at h1
  have hown5 := hN.own.kept hgrow (.inr (by intro e; exact hgo e.symm))
  have hggg : gg ≠ g := by
    have hgl := (h.own.lt g rfl).2
    rcases hat with e | e
    · intro e2; rw [e2] at e; exact hgo e
    · omega
  have hst := (hown5.stored (k * 9 + 7) (.slice (some ⟨gg, 0, none⟩) (rs[k].nd.pieces.length + 1) cap1)).1
  have ha := List.pairwise_iff_getElem.1 h.apart
  have hap : ∀ j (hj : j < rs.length), j ≠ k → rs[j].loc ≠ none → rs[k].loc ≠ none → rs[j].loc ≠ rs[k].loc := fun j hj hjk h1 h2 => by
    rcases Nat.lt_or_gt_of_ne hjk with q | q
    · exact ha j k hj hk' q h1 h2
    · exact fun e => ha k j hk' hj q h2 h1 e.symm
  refine ⟨?_, fun s hs => ?_, ?_⟩
  · rw [List.length_set, ← ncs_set rs k hk' 7 (by omega) (.slice (some ⟨gg, 0, none⟩) (rs[k].nd.pieces.length + 1) cap1) _ (by simp [ncells])]
    exact hst
  · obtain ⟨j, hj, rfl⟩ := List.mem_iff_getElem.1 hs
    rw [List.length_set] at hj
    rw [List.getElem_set]
    split
    · have e : pcs (rs[k].nd.pieces ++ [new]) = pcs rs[k].nd.pieces ++ pcells new := by simp [pcs]
      show World.ownsRow _ _ _ _ (.slice (some ⟨gg, 0, none⟩) (rs[k].nd.pieces ++ [new]).length cap1) (rs[k].nd.pieces ++ [new]).length (pcs (rs[k].nd.pieces ++ [new]))
      rw [e, List.length_append, List.length_singleton]
      exact ho.kept (gb_set' _ _ _ _) (.inr (by simp [Value.ownBlock]; exact hggg))
    · rename_i hjk
      have h1 : w5.ownsRow B 59 2 (.slice rs[j].loc rs[j].nd.pieces.length rs[j].cap) rs[j].nd.pieces.length (pcs rs[j].nd.pieces) := by
        refine (hN.rows _ (List.getElem_mem hj)).kept hgrow ?_
        cases e : rs[j].loc with
        | none => exact .inl rfl
        | some q =>
          refine .inr fun e2 => ?_
          cases e3 : rs[k].loc with
          | none => rw [e3] at e2; cases e2
          | some q' =>
            have hne := hap j hj (fun e => hjk e.symm) (by rw [e]; simp) (by rw [e3]; simp)
            rw [e, e3] at hne
            rw [e3] at e2
            have z1 := own_zero (by have := h.rows _ (List.getElem_mem hj); rw [e] at this; exact this)
            have z2 := own_zero (by have := h.rows _ (List.getElem_mem hk'); rw [e3] at this; exact this)
            simp [Value.ownBlock] at e2
            exact hne (by rw [z1, z2, e2])
      refine h1.kept (gb_set' _ _ _ _) ?_
      cases e : rs[j].loc with
      | none => exact .inl rfl
      | some q =>
        refine .inr fun e2 => ?_
        obtain ⟨c1, h2⟩ := own_blk' (hN.rows _ (List.getElem_mem hj)) (by rw [e]; exact e2)
        rw [hcg] at h2
        simp at h2
  · have hnew : ∀ j (hj : j < rs.length), j ≠ k → rs[j].loc ≠ some ⟨gg, 0, none⟩ := fun j hj hjk e => by
      rcases hat with q | q
      · cases e3 : rs[k].loc with
        | none => rw [e3] at q; cases q
        | some q' =>
          rw [e3] at q
          have z2 := own_zero (by have := h.rows _ (List.getElem_mem hk'); rw [e3] at this; exact this)
          simp [Value.ownBlock] at q
          exact hap j hj hjk (by rw [e]; simp) (by rw [e3]; simp) (by rw [e, e3, z2, q])
      · have := hlt _ (List.getElem_mem hj) _ e
        simp at this
        omega
    refine List.pairwise_iff_getElem.2 fun a b ha' hb' hab => ?_
    rw [List.length_set] at ha' hb'
    rw [List.getElem_set, List.getElem_set]
    split
    · rename_i h1
      rw [if_neg (by omega)]
      intro _ _ e
      exact hnew b hb' (by omega) e.symm
    · split
      · rename_i h1 h2
        intro _ _ e
        exact hnew a ha' (by omega) e
      · exact ha a b ha' hb' hab
/-- A node is laid anew: one cell of it, its pieces as they were. -/
theorem NB.put {w : World} {B g cap : Nat} {rs : List NR} (h : NB w B (.slice (some ⟨g, 0, none⟩) rs.length cap) rs) (k : Nat) (hk : k < rs.length) (f : Nat) (hf : f < 9) (x : Value) (r : NR) (hc : ncells r = (ncells rs[k]).set f x) (hl : r.loc = rs[k].loc) (hcp : r.cap = rs[k].cap) (hp : r.nd.pieces = rs[k].nd.pieces) :
    NB (w.setCell ⟨g, k * 9 + f, none⟩ x) B (.slice (some ⟨g, 0, none⟩) rs.length cap) (rs.set k r) := by
  have hgb := gb_set' w g (k * 9 + f) x
  have hst := (h.own.stored (k * 9 + f) x).1
  have hcs := ncs_set rs k hk f hf x r hc
  refine ⟨?_, fun s hs => ?_, ?_⟩
  · rw [← hcs, List.length_set]
    exact hst
  · have hs' : ∃ s' ∈ rs, s.loc = s'.loc ∧ s.cap = s'.cap ∧ s.nd.pieces = s'.nd.pieces := by
      rcases List.mem_or_eq_of_mem_set hs with q | q
      · exact ⟨s, q, rfl, rfl, rfl⟩
      · subst q; exact ⟨rs[k], List.getElem_mem hk, hl, hcp, hp⟩
    obtain ⟨s', hm, e1, e2, e3⟩ := hs'
    rw [e1, e2, e3]
    refine (h.rows s' hm).kept hgb ?_
    cases e : (Value.slice s'.loc s'.nd.pieces.length s'.cap).ownBlock with
    | none => exact .inl rfl
    | some q =>
      refine .inr fun e2 => ?_
      obtain ⟨c1, h1⟩ := own_blk' (h.rows s' hm) e
      obtain ⟨c2, h2⟩ := own_blk' h.own (show (Value.slice (some ⟨g, 0, none⟩) rs.length cap).ownBlock = some g from rfl)
      cases e2
      rw [h1] at h2
      simp at h2
  · have ha := List.pairwise_iff_getElem.1 h.apart
    refine List.pairwise_iff_getElem.2 fun a b ha' hb' hab => ?_
    rw [List.length_set] at ha' hb'
    have := ha a b ha' hb' hab
    rw [List.getElem_set, List.getElem_set]
    split
    · rename_i h1
      subst h1
      rw [if_neg (by omega), hl]
      exact this
    · split
      · rename_i h2
        subst h2
        rw [hl]
        exact this
      · exact this
theorem NB.cellK {w : World} {B n cap g : Nat} {rs : List NR} {k : Nat} {r : NR} (h : NB w B (.slice (some ⟨g, 0, none⟩) n cap) rs) (hn : rs.length = n) (hk : rs[k]? = some r) (f : Nat) (v : Value) (hv : (ncells r)[f]? = some v) : w.cell? ⟨g, k * 9 + f, none⟩ = some v ∧ w.frozen? ⟨g, k * 9 + f, none⟩ = false := by
  subst hn
  obtain ⟨hk', e⟩ := List.getElem?_eq_some_iff.1 hk
  have hw := own_wcells h.own
  have hf : f < 9 := by have := (List.getElem?_eq_some_iff.1 hv).1; rw [ncells_len] at this; exact this
  exact hw.2 _ _ ((flat_get ncells_len rs k hk' f hf).trans (by rw [e]; exact hv))
theorem NB.putK {w : World} {B n cap g : Nat} {rs : List NR} {k : Nat} {r : NR} (h : NB w B (.slice (some ⟨g, 0, none⟩) n cap) rs) (hn : rs.length = n) (hk : rs[k]? = some r) (f : Nat) (hf : f < 9) (x : Value) (r' : NR) (hc : ncells r' = (ncells r).set f x) (hl : r'.loc = r.loc) (hcp : r'.cap = r.cap) (hp : r'.nd.pieces = r.nd.pieces) :
    NB (w.setCell ⟨g, k * 9 + f, none⟩ x) B (.slice (some ⟨g, 0, none⟩) n cap) (rs.set k r') := by
  subst hn
  obtain ⟨hk', e⟩ := List.getElem?_eq_some_iff.1 hk
  subst e
  exact h.put k hk' f hf x r' hc hl hcp hp
/-- The node of a copy at a place. -/
theorem copy_at {rs rs2 : List NR} {k : Nat} {r : NR} (h : nds rs2 = nds rs) (hk : rs[k]? = some r) : ∃ loc cp, rs2[k]? = some ⟨r.nd, loc, cp⟩ := by
  have h1 : (nds rs2)[k]? = (nds rs)[k]? := by rw [h]
  simp only [nds, List.getElem?_map, hk, Option.map_some] at h1
  cases h2 : rs2[k]? with
  | none => rw [h2] at h1; cases h1
  | some s =>
    rw [h2] at h1
    simp only [Option.map_some, Option.some.injEq] at h1
    exact ⟨s.loc, s.cap, by rw [← h1]⟩
theorem NB.lts {w : World} {B : Nat} {v : Value} {rs : List NR} (h : NB w B v rs) : ∀ r ∈ rs, ∀ q, r.loc = some q → q.block < w.heap.size := fun r hr q e => by
  have := (h.rows r hr).lt q.block (by rw [e]; rfl)
  exact this.2
theorem NB.setAway {w : World} {B : Nat} {v : Value} {rs : List NR} (h : NB w B v rs) (g i : Nat) (x : Value) (hv : v.ownBlock ≠ some g) (hr : ∀ r ∈ rs, ∀ q, r.loc = some q → q.block ≠ g) : NB (w.setCell ⟨g, i, none⟩ x) B v rs := by
  refine ⟨h.own.kept (gb_set' w g i x) (.inr hv), fun r hr' => (h.rows r hr').kept (gb_set' w g i x) (.inr fun e => ?_), h.apart⟩
  cases hl : r.loc with
  | none => rw [hl] at e; cases e
  | some q =>
    rw [hl] at e
    simp [Value.ownBlock] at e
    exact hr r hr' q hl e
/-- What grows lies beyond. -/
theorem NB.beyond {w w' : World} {B C : Nat} {v : Value} {rs : List NR} {q : Option Nat} (h : NB w B v rs) (hg : w.grownBy w' q) (hq : ∀ k, q = some k → C ≤ k) (hv : ∀ k, v.ownBlock = some k → k < C) (hr : ∀ r ∈ rs, ∀ a, r.loc = some a → a.block < C) : NB w' B v rs := by
  refine ⟨h.own.kept hg ?_, fun r hr' => (h.rows r hr').kept hg ?_, h.apart⟩
  · cases e : v.ownBlock with
    | none => exact .inl rfl
    | some k => exact .inr fun e2 => by have := hq k e2.symm; have := hv k e; omega
  · cases e : (Value.slice r.loc r.nd.pieces.length r.cap).ownBlock with
    | none => exact .inl rfl
    | some k =>
      refine .inr fun e2 => ?_
      have h1 := hq k e2.symm
      cases hl : r.loc with
      | none => rw [hl] at e; cases e
      | some a =>
        rw [hl] at e
        simp [Value.ownBlock] at e
        have := hr r hr' a hl
        omega
/-- What an answer of a tree and a number is. -/
def ApPost (R : TM × Int) (w : World) (e : Ending) (w' : World) : Prop := ∃ v, e = .returned (.tuple #[v, .int .i64 R.2]) ∧ TAns w' v R.1 w.heap.size w'.heap.size ∧ Below w.heap.size w w'
end Go.Proofs.Ythfmjjaollekiaa
/- MapA: Maps of pointers and of maps: how their elements read, and their laws at the operations. -/
namespace Go.Proofs.Ythfmjjaollekiaa
set_option maxRecDepth 100000
open Go.RowKit Go.Maps

/-- How a pointer to a block reads. -/
def ptrE : Value → Option (DataW Unit × List MemPlace)
  | .pointer (some ⟨g, 0, none⟩) => some (.lit (.int .i64 g), [])
  | .pointer none => some (.nil, [])
  | _ => none
/-- How a map reads: as its block. -/
def mapE : Value → Option (DataW Unit × List MemPlace)
  | .map (some g) => some (.lit (.int .i64 g), [])
  | .map none => some (.nil, [])
  | _ => none
/-- A pointer, out of a block. -/
def ptrV : Option Nat → Value
  | some g => .pointer (some ⟨g, 0, none⟩)
  | none => .pointer none
/-- A map, out of a block. -/
def mapV : Option Nat → Value
  | some g => .map (some g)
  | none => .map none
theorem ptrE_form {v : Value} {y : DataW Unit × List MemPlace} (h : ptrE v = some y) : ∃ c, v = ptrV c := by
  unfold ptrE at h
  split at h
  · exact ⟨some _, rfl⟩
  · exact ⟨none, rfl⟩
  · cases h
theorem ptrE_some {v : Value} {g : Nat} {ps : List MemPlace} (h : ptrE v = some (.lit (.int .i64 g), ps)) : v = ptrV (some g) := by
  obtain ⟨c, rfl⟩ := ptrE_form h
  cases c with
  | none => simp [ptrV, ptrE] at h
  | some c => simp [ptrV, ptrE] at h; rw [show c = g by omega]
theorem ptrE_none {v : Value} {ps : List MemPlace} (h : ptrE v = some (.nil, ps)) : v = ptrV none := by
  obtain ⟨c, rfl⟩ := ptrE_form h
  cases c with
  | none => rfl
  | some c => simp [ptrV, ptrE] at h
theorem mapE_form {v : Value} {y : DataW Unit × List MemPlace} (h : mapE v = some y) : ∃ c, v = mapV c := by
  unfold mapE at h
  split at h
  · exact ⟨some _, rfl⟩
  · exact ⟨none, rfl⟩
  · cases h
theorem mapE_some {v : Value} {g : Nat} {ps : List MemPlace} (h : mapE v = some (.lit (.int .i64 g), ps)) : v = mapV (some g) := by
  obtain ⟨c, rfl⟩ := mapE_form h
  cases c with
  | none => simp [mapV, mapE] at h
  | some c => simp [mapV, mapE] at h; rw [show c = g by omega]
theorem mapE_none {v : Value} {ps : List MemPlace} (h : mapE v = some (.nil, ps)) : v = mapV none := by
  obtain ⟨c, rfl⟩ := mapE_form h
  cases c with
  | none => rfl
  | some c => simp [mapV, mapE] at h
/-- A name as a key. -/
abbrev ks (n : ByteArray) : Lit := .string n.data.toList
/-- A number as a key. -/
abbrev ki (x : Int) : Lit := .int .i64 x
theorem ks_inj {m n : ByteArray} (h : ks m = ks n) : m = n := ByteArray.ext (Array.toList_inj.1 (by simpa using h))
theorem ki_inj {m n : Int} (h : ki m = ki n) : m = n := by simpa using h
/-- What a map tells: of each key a block, or nothing. -/
def Tells (D : DataW Unit) (l : Lit) (o : Option Nat) : Prop := match o with
  | some g => ∀ z, D.atKey l z = .lit (.int .i64 g)
  | none => Maps.has D l = false
theorem Tells.at {D : DataW Unit} {l : Lit} {g : Nat} (h : Tells D l (some g)) : D.atKey l .nil = .lit (.int .i64 g) := h .nil
theorem Tells.no {D : DataW Unit} {l : Lit} (h : Tells D l none) : D.atKey l .nil = .nil := Maps.atKey_of_not_has h .nil
theorem Tells.has {D : DataW Unit} {l : Lit} {o : Option Nat} (h : Tells D l o) : Maps.has D l = o.isSome := by
  cases o with
  | some g => exact Maps.has_true_of_atKey h
  | none => exact h
theorem Tells.put_same {D : DataW Unit} {l : Lit} {g : Nat} (hm : Maps.IsMap D) (hk : WideAt.IsKeyLit l) : Tells (D.put l (.lit (.int .i64 g))) l (some g) := fun z => Maps.atKey_put_same hm hk _ z
theorem Tells.put_other {D : DataW Unit} {l l' : Lit} {o : Option Nat} {d : DataW Unit} (h : Tells D l o) (hne : l ≠ l') : Tells (D.put l' d) l o := by
  cases o with
  | some g => exact fun z => by rw [Maps.atKey_put_other hne]; exact h z
  | none => exact (Maps.has_put_other hne _).trans h
theorem own_tight' {w : World} {P : Program} {k : TypeId} {R : Value → Option (DataW Unit × List MemPlace)} {b n m : Nat} {D : DataW Unit} (h : w.ownsMap P k R b n D) (hm : Maps.size D ≤ m) : w.ownsMap P k R b m D := by
  obtain ⟨es, clock, hb, F, hs, hD⟩ := h
  refine ⟨es, clock, hb, F, ?_, hD⟩
  have : Maps.size D = es.size := by rw [hD]; simp [Maps.size, length_sorted]
  omega
theorem own_drewN {w : World} {P : Program} {k : TypeId} {R : Value → Option (DataW Unit × List MemPlace)} {b n : Nat} {D : DataW Unit} (h : w.ownsMap P k R b n D) (q : Nat) : (w.drewN q).ownsMap P k R b n D := h
theorem own_below {w w' : World} {P : Program} {k : TypeId} {R : Value → Option (DataW Unit × List MemPlace)} {b n : Nat} {D : DataW Unit} (h : w.ownsMap P k R b n D) (hb : Below w.heap.size w w') : w'.ownsMap P k R b n D :=
  h.kept (row := none) ⟨hb.os, hb.tape, hb.output, hb.size, fun k hk _ => hb.block k hk⟩ (by simp)
theorem own_turned {w w' : World} {P : Program} {k : TypeId} {R : Value → Option (DataW Unit × List MemPlace)} {b n c : Nat} {D : DataW Unit} (h : w.ownsMap P k R b n D) (ht : w.mapTurned w' c) (hne : b ≠ c) : w'.ownsMap P k R b n D :=
  h.kept ht.grown (by simpa using hne)
/-- Cells stay where a map is turned. -/
theorem wc_mapTurned {w w' : World} {b g : Nat} {L : List Value} (h : WCells w g L) (ht : w.mapTurned w' b) : WCells w' g L := by
  refine ⟨Nat.lt_of_lt_of_le h.1 ht.grown.size, fun i v hv => ?_⟩
  have h1 := h.2 i v hv
  have hne : g ≠ b := by
    rintro rfl
    obtain ⟨es, clock, _, _, hb, _⟩ := ht
    have := h1.1
    simp [World.cell?, hb] at this
  have hk := ht.grown.block g h.1 (by simpa using hne)
  constructor
  · have := h1.1
    simp only [World.cell?, hk] at this ⊢
    exact this
  · have := h1.2
    simp only [World.frozen?, hk] at this ⊢
    exact this
section
variable {P : Program} {w : World} {k e t : TypeId} {b n : Nat} {D : DataW Unit} {key : Value} {l : Lit} {o : Option Nat}
theorem look_ptr (K : Keyed P k) (ht : P.underlying t = some (.map k e)) (hz : ∀ w, (zeroValue e).run P w = .ok (.pointer none) w) (h : w.ownsMap P k ptrE b n D) (hkey : keyOf P k key = some l) (ho : Tells D l o) (q : Nat) :
    (Instr.lookup t (.map (some b)) key false).run P (w.drewN q) = .ok (ptrV o) (w.drewN q) := by
  obtain ⟨v, ps, hrun, hv⟩ := (own_drewN h q).lookup K ht (hz _) (zd := .nil) (zp := []) rfl hkey
  cases o with
  | some g => rw [ho.at] at hv; rw [hrun, ptrE_some hv]
  | none => rw [ho.no] at hv; rw [hrun, ptrE_none hv]
theorem look_map (K : Keyed P k) (ht : P.underlying t = some (.map k e)) (hz : ∀ w, (zeroValue e).run P w = .ok (.map none) w) (h : w.ownsMap P k mapE b n D) (hkey : keyOf P k key = some l) (ho : Tells D l o) (q : Nat) :
    (Instr.lookup t (.map (some b)) key false).run P (w.drewN q) = .ok (mapV o) (w.drewN q) := by
  obtain ⟨v, ps, hrun, hv⟩ := (own_drewN h q).lookup K ht (hz _) (zd := .nil) (zp := []) rfl hkey
  cases o with
  | some g => rw [ho.at] at hv; rw [hrun, mapE_some hv]
  | none => rw [ho.no] at hv; rw [hrun, mapE_none hv]
end
end Go.Proofs.Ythfmjjaollekiaa
/- LkP: Right trees, plain: where nodes are found, and the way up from each. Nothing of the program is read here. -/
namespace Go.Proofs.Ythfmjjaollekiaa
set_option maxRecDepth 100000

/-- The first node of an Id. -/
def fid (ns : List NM) (id : Int) : Option Nat := ns.findIdx? (fun n => n.id == id)
/-- The first node of a Parent and a Name. -/
def fnm (ns : List NM) (p : Int) (s : ByteArray) : Option Nat := ns.findIdx? (fun n => n.parent == p && decide (n.name = s))
theorem find_take {α : Type} (P : α → Bool) (xs : List α) (k : Nat) (h : k < xs.length) : (xs.take (k + 1)).findIdx? P = match (xs.take k).findIdx? P with
    | some i => some i
    | none => if P xs[k] = true then some k else none := by
  rw [List.take_succ_eq_append_getElem h, List.findIdx?_append]
  cases hf : (xs.take k).findIdx? P with
  | some i => simp
  | none =>
    simp only [List.findIdx?_cons, List.findIdx?_nil, Option.none_or]
    have : (xs.take k).length = k := by simp; omega
    by_cases hp : P xs[k] = true
    · simp [hp, this]
    · simp [hp]
theorem fid_lt {ns : List NM} {id : Int} {i : Nat} (h : fid ns id = some i) : ∃ hi : i < ns.length, ns[i].id = id := by
  obtain ⟨hi, h1, _⟩ := List.findIdx?_eq_some_iff_getElem.1 h
  exact ⟨hi, by simpa using h1⟩
theorem fid_none {ns : List NM} {id : Int} (h : fid ns id = none) : ∀ n ∈ ns, n.id ≠ id := fun n hn => by simpa using List.findIdx?_eq_none_iff.1 h n hn
theorem fid_first {ns : List NM} {id : Int} {i : Nat} (h : fid ns id = some i) : ∀ j, j < i → ∀ hj : j < ns.length, ns[j].id ≠ id := by
  obtain ⟨hi, h1, h2⟩ := List.findIdx?_eq_some_iff_getElem.1 h
  exact fun j hj hjl => by simpa using h2 j hj
theorem fid_of {ns : List NM} {i : Nat} (hi : i < ns.length) (h : ∀ j, j < i → ∀ hj : j < ns.length, ns[j].id ≠ ns[i].id) : fid ns ns[i].id = some i :=
  List.findIdx?_eq_some_iff_getElem.2 ⟨hi, by simp, fun j hj => by simpa using h j hj (by omega)⟩
theorem fnm_lt {ns : List NM} {p : Int} {s : ByteArray} {i : Nat} (h : fnm ns p s = some i) : ∃ hi : i < ns.length, ns[i].parent = p ∧ ns[i].name = s := by
  obtain ⟨hi, h1, _⟩ := List.findIdx?_eq_some_iff_getElem.1 h
  exact ⟨hi, by simpa using h1⟩
theorem fnm_none {ns : List NM} {p : Int} {s : ByteArray} (h : fnm ns p s = none) : ∀ n ∈ ns, n.parent = p → n.name ≠ s := fun n hn => by simpa using List.findIdx?_eq_none_iff.1 h n hn
theorem fnm_first {ns : List NM} {p : Int} {s : ByteArray} {i : Nat} (h : fnm ns p s = some i) : ∀ j, j < i → ∀ hj : j < ns.length, ns[j].parent = p → ns[j].name ≠ s := by
  obtain ⟨hi, h1, h2⟩ := List.findIdx?_eq_some_iff_getElem.1 h
  exact fun j hj hjl => by simpa using h2 j hj
theorem at_fid (ns : List NM) (id : Int) : atI ns id = match fid ns id with
    | some i => (i : Int)
    | none => -1 := rfl
/-- The way up from a node to the first one, and its steps. -/
inductive Ups (ns : List NM) : Nat → Nat → Prop
  | root : Ups ns 0 0
  | step {i k d : Nat} : i < ns.length → i ≠ 0 → fid ns (ns.getD i default).parent = some k → Ups ns k d → Ups ns i (d + 1)
/-- Ids that ascend from 1 on. -/
def Asc (ns : List NM) : Prop := (∀ i (hi : i < ns.length), 0 < i → (ns.getD (i - 1) default).id < ns[i].id) ∧ 0 < ns.length ∧ (ns.getD 0 default).id = 1 ∧ (ns.getD 0 default).parent = 0
theorem Asc.lt {ns : List NM} (h : Asc ns) : ∀ j (hj : j < ns.length) i, i < j → (ns.getD i default).id < ns[j].id := by
  intro j
  induction j with
  | zero => intro _ i hi; omega
  | succ j ih =>
    intro hj i hi
    have h1 := h.1 (j + 1) hj (by omega)
    simp only [Nat.add_sub_cancel] at h1
    rcases Nat.lt_or_ge i j with hl | hg
    · have h2 := ih (by omega) i hl
      have e : (ns.getD j default) = ns[j] := by simp [List.getD, (by omega : j < ns.length)]
      rw [e] at h1
      omega
    · obtain rfl : i = j := by omega
      exact h1
theorem getD_in {ns : List NM} {i : Nat} (hi : i < ns.length) : ns.getD i default = ns[i] := by simp [List.getD, hi]
theorem Asc.fid {ns : List NM} (h : Asc ns) {i : Nat} (hi : i < ns.length) : fid ns ns[i].id = some i :=
  fid_of hi fun j hj hjl => by have := h.lt i hi j hj; rw [getD_in hjl] at this; omega
theorem Asc.pos {ns : List NM} (h : Asc ns) {i : Nat} (hi : i < ns.length) : 1 ≤ ns[i].id := by
  rcases Nat.eq_zero_or_pos i with rfl | hp
  · have := h.2.2.1
    rw [getD_in hi] at this
    omega
  · have := h.lt i hi 0 hp
    rw [h.2.2.1] at this
    omega
theorem Asc.zero {ns : List NM} (h : Asc ns) : Go.Proofs.Ythfmjjaollekiaa.fid ns 0 = none := by
  cases hf : Go.Proofs.Ythfmjjaollekiaa.fid ns 0 with
  | none => rfl
  | some i =>
    obtain ⟨hi, e⟩ := fid_lt hf
    have := h.pos hi
    omega
theorem Asc.one {ns : List NM} (h : Asc ns) : Go.Proofs.Ythfmjjaollekiaa.fid ns 1 = some 0 := by
  have := h.fid h.2.1
  rw [← getD_in h.2.1, h.2.2.1] at this
  exact this
theorem climbs_ups {ns : List NM} (h : Asc ns) : ∀ (f : Nat) (id : Int) (i : Nat), climbs ns f id = true → Go.Proofs.Ythfmjjaollekiaa.fid ns id = some i → i ≠ 0 → ∃ d, d ≤ f ∧ Ups ns i d := by
  intro f
  induction f with
  | zero => intro id i hc; simp [climbs] at hc
  | succ f ih =>
    intro id i hc hi h0
    unfold climbs at hc
    unfold Go.Proofs.Ythfmjjaollekiaa.fid at hi
    rw [hi] at hc
    dsimp only at hc
    obtain ⟨hil, _⟩ := fid_lt (ns := ns) hi
    by_cases h1 : (ns.getD i default).parent = 1
    · exact ⟨1, by omega, Ups.step hil h0 (by rw [h1]; exact h.one) Ups.root⟩
    · rw [if_neg h1] at hc
      cases hk : Go.Proofs.Ythfmjjaollekiaa.fid ns (ns.getD i default).parent with
      | none =>
        cases f with
        | zero => simp [climbs] at hc
        | succ f =>
          unfold climbs at hc
          unfold Go.Proofs.Ythfmjjaollekiaa.fid at hk
          rw [hk] at hc
          cases hc
      | some k =>
        by_cases hk0 : k = 0
        · subst hk0
          have := fid_lt hk
          obtain ⟨hl, e⟩ := this
          rw [← getD_in hl, h.2.2.1] at e
          exact absurd e.symm h1
        · obtain ⟨d, hd, hu⟩ := ih _ k hc hk hk0
          exact ⟨d + 1, by omega, Ups.step hil h0 hk hu⟩
theorem ups_climbs {ns : List NM} (h : Asc ns) : ∀ (f i d : Nat), Ups ns i d → i ≠ 0 → d ≤ f → climbs ns f (ns.getD i default).id = true := by
  intro f
  induction f with
  | zero =>
    intro i d hu h0 hd
    cases hu with
    | root => exact absurd rfl h0
    | step => omega
  | succ f ih =>
    intro i d hu h0 hd
    cases hu with
    | root => exact absurd rfl h0
    | @step _ k d' hil _ hk hu' =>
      unfold climbs
      have e := h.fid hil
      rw [← getD_in hil] at e
      unfold Go.Proofs.Ythfmjjaollekiaa.fid at e
      rw [e]
      dsimp only
      split
      · rfl
      · rename_i hne
        obtain ⟨hkl, ek⟩ := fid_lt hk
        rw [← ek, ← getD_in hkl]
        refine ih k d' hu' (fun e0 => hne ?_) (by omega)
        subst e0
        rw [← ek, ← getD_in hkl]
        exact h.2.2.1
theorem Ups.lt {ns : List NM} (h : Asc ns) {i d : Nat} (hu : Ups ns i d) : i < ns.length := by
  cases hu with
  | root => exact h.2.1
  | step hl => exact hl
theorem Ups.det {ns : List NM} {i d e : Nat} (h : Ups ns i d) (h' : Ups ns i e) : d = e := by
  induction h generalizing e with
  | root =>
    cases h' with
    | root => rfl
    | step _ h0 => exact absurd rfl h0
  | step _ h0 hk _ ih =>
    cases h' with
    | root => exact absurd rfl h0
    | step _ _ hk' hu' =>
      rw [hk] at hk'
      cases hk'
      rw [ih hu']
end Go.Proofs.Ythfmjjaollekiaa
