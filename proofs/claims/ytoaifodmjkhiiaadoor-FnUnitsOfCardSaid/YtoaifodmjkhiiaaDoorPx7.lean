/- Texts of ours, laid one behind the other: NestD, NestE, NestF, MatA, MatB, FieldM, FieldN, FieldS, MatM, MatC, MatE, MatF. -/
import Derived.Test.YtoaifodmjkhiiaaDoorPx6
import Derived.BigQuiet
import Derived.Deep.CutRange
import Derived.Deep.AppendLies
import Derived.Deep.RegionHeld3
import Derived.WalkKit
/- NestD: Rows of rows of numbers: marks that are laid into all of them, and found again. -/
namespace Go.Proofs.YtoaifodmjkhiiaaDoor
set_option maxRecDepth 100000
open Go.RowKit
attribute [local go_sem ↓] Go.wp_at_zero Go.wp_at_succ

/-- One row of a row of rows is written anew. -/
theorem MW.setRow {w w' : World} {g : Nat} {ss : List SR} {lo hi : Nat} (h : MW w g ss lo hi) {i b : Nat} (hi' : i < ss.length) (hloc : ss[i].loc = some ⟨b, 0, none⟩) {row : List Int} (hlen : row.length = ss[i].row.length)
    (hg : w.grownBy w' (some b)) (hc : WCells w' b (ics row)) : MW w' g (ss.set i { ss[i] with row := row }) lo hi := by
  obtain ⟨b', e', q1, q2, q3, _, q5⟩ := h.rows ss[i] (List.getElem_mem hi')
  obtain rfl : b' = b := congrArg Addr.block (Option.some.inj (e'.symm.trans hloc))
  have hmap : (ss.set i { ss[i] with row := row }).map SR.loc = ss.map SR.loc := by
    rw [List.map_set]
    show (ss.map SR.loc).set i ss[i].loc = _
    rw [show ss[i].loc = (ss.map SR.loc)[i]'(by simpa using hi') by simp, List.set_getElem_self]
  have hsv : svs (ss.set i { ss[i] with row := row }) = svs ss := by
    unfold svs
    rw [List.map_set]
    have : srv { ss[i] with row := row } = (ss.map srv)[i]'(by simpa using hi') := by simp [srv, hlen]
    rw [this, List.set_getElem_self]
  refine ⟨?_, h.glo, h.ghi, fun s hs => ?_, by rw [hmap]; exact h.apart⟩
  · rw [hsv]; exact h.out.apart hg (Ne.symm q3)
  · obtain ⟨j, hj, rfl⟩ := List.mem_iff_getElem.1 hs
    rw [List.length_set] at hj
    by_cases e : i = j
    · subst e
      rw [List.getElem_set_self]
      exact ⟨b', hloc, q1, q2, q3, hc, by show row.length ≤ ss[i].cap; omega⟩
    · rw [List.getElem_set_ne e]
      obtain ⟨c, f, p1, p2, p3, p4, p5⟩ := h.rows ss[j] (List.getElem_mem hj)
      refine ⟨c, f, p1, p2, p3, p4.apart hg ?_, p5⟩
      intro ec
      subst ec
      have hn := h.apart
      rw [List.nodup_iff_pairwise_ne, List.pairwise_iff_getElem] at hn
      rcases Nat.lt_or_gt_of_ne e with h1 | h1
      · have := hn i j (by simpa using hi') (by simpa using hj) h1
        simp at this
        exact this (e'.trans f.symm)
      · have := hn j i (by simpa using hj) (by simpa using hi') h1
        simp at this
        exact this (f.trans e'.symm)
/-- A row of rows that is marked from k on. -/
structure Marked (k : Nat) (ss ts : List SR) (j : Nat) : Prop where
  len : ts.length = ss.length
  same : ∀ i (h : i < ss.length), ts[i].loc = ss[i].loc ∧ ts[i].cap = ss[i].cap ∧ ts[i].row.length = ss[i].row.length
  marks : ∀ i (h : i < ss.length), i < j → ts[i].row = marksI (k + msum (ss.take i)) ss[i].row.length
theorem Marked.start (k : Nat) (ss : List SR) : Marked k ss ss 0 := ⟨rfl, fun _ _ => ⟨rfl, rfl, rfl⟩, fun i _ h => by omega⟩
theorem Marked.next {k : Nat} {ss ts : List SR} {j : Nat} (h : Marked k ss ts j) (hj : j < ss.length) : Marked k ss (ts.set j { ts[j]'(by rw [h.len]; exact hj) with row := marksI (k + msum (ss.take j)) ss[j].row.length }) (j + 1) := by
  have hj' : j < ts.length := by rw [h.len]; exact hj
  refine ⟨by rw [List.length_set]; exact h.len, fun i hi => ?_, fun i hi hij => ?_⟩
  · by_cases e : j = i
    · subst e
      rw [List.getElem_set_self]
      exact ⟨(h.same j hj).1, (h.same j hj).2.1, by rw [marksI_len]⟩
    · rw [List.getElem_set_ne e]; exact h.same i hi
  · by_cases e : j = i
    · subst e
      rw [List.getElem_set_self]
    · rw [List.getElem_set_ne e]; exact h.marks i hi (by omega)
end Go.Proofs.YtoaifodmjkhiiaaDoor
/- NestE: Rows of rows of numbers as values: what is seen of one, what an answer is, what is marked, and the laws' own functions over them. -/
namespace Go.Proofs.YtoaifodmjkhiiaaDoor
set_option maxRecDepth 100000
open Go.RowKit

/-- How many numbers there are. -/
def xsum : List (List Int) → Nat
  | [] => 0
  | x :: X => x.length + xsum X
theorem msum_rws (ss : List SR) : msum ss = xsum (rws ss) := by
  induction ss with
  | nil => rfl
  | cons s ss ih => simp only [msum, rws, List.map_cons, xsum]; rw [ih]; rfl
theorem xsum_mem {X : List (List Int)} {x : List Int} (h : x ∈ X) : x.length ≤ xsum X := by
  induction X with
  | nil => simp at h
  | cons t X ih =>
    rcases List.mem_cons.1 h with rfl | h
    · simp only [xsum]; omega
    · have := ih h; simp only [xsum]; omega
/-- A value that is these rows of numbers. -/
def MSee (w : World) (v : Value) (X : List (List Int)) (lo hi : Nat) : Prop := ∃ (a : Option Addr) (cap : Nat) (ss : List SR), v = .slice a ss.length cap ∧ rws ss = X ∧ MR w a ss lo hi
/-- A value that was marked from k on, where it was these rows of numbers. -/
def MHeld (w : World) (v : Value) (k : Nat) (X : List (List Int)) (lo hi : Nat) : Prop := ∃ (a : Option Addr) (cap : Nat) (ss ts : List SR), v = .slice a ss.length cap ∧ rws ss = X ∧ Marked k ss ts ss.length ∧ MR w a ts lo hi
theorem MAns.see {w : World} {v : Value} {X : List (List Int)} {lo hi : Nat} (h : MAns w v X lo hi) : MSee w v X lo hi := by
  obtain ⟨a, cap, ss, e, hr, _, h1⟩ := h
  refine ⟨a, cap, ss, e, hr, ?_⟩
  rcases h1 with rfl | ⟨g, rfl, hm⟩
  · exact MR.nil _ _ _ _
  · exact hm.mr
theorem MSee.turned {w w' : World} {v : Value} {X : List (List Int)} {lo hi lo' hi' : Nat} (h : MSee w v X lo hi) (t : Turned w w' lo' hi') (hd : hi ≤ lo' ∨ hi' ≤ lo) : MSee w' v X lo hi := by
  obtain ⟨a, cap, ss, e, hr, h1⟩ := h
  exact ⟨a, cap, ss, e, hr, h1.turned t hd⟩
theorem MSee.below {w w' : World} {v : Value} {X : List (List Int)} {lo hi : Nat} (h : MSee w v X lo hi) (hb : Below w.heap.size w w') : MSee w' v X lo hi := by
  obtain ⟨a, cap, ss, e, hr, h1⟩ := h
  exact ⟨a, cap, ss, e, hr, h1.below hb⟩
theorem MSee.wide {w : World} {v : Value} {X : List (List Int)} {lo hi lo' hi' : Nat} (h : MSee w v X lo hi) (h1 : lo' ≤ lo) (h2 : hi ≤ hi') : MSee w v X lo' hi' := by
  obtain ⟨a, cap, ss, e, hr, q⟩ := h
  exact ⟨a, cap, ss, e, hr, q.wide h1 h2⟩
theorem MHeld.turned {w w' : World} {v : Value} {k : Nat} {X : List (List Int)} {lo hi lo' hi' : Nat} (h : MHeld w v k X lo hi) (t : Turned w w' lo' hi') (hd : hi ≤ lo' ∨ hi' ≤ lo) : MHeld w' v k X lo hi := by
  obtain ⟨a, cap, ss, ts, e, hr, hm, h1⟩ := h
  exact ⟨a, cap, ss, ts, e, hr, hm, h1.turned t hd⟩
theorem MHeld.below {w w' : World} {v : Value} {k : Nat} {X : List (List Int)} {lo hi : Nat} (h : MHeld w v k X lo hi) (hb : Below w.heap.size w w') : MHeld w' v k X lo hi := by
  obtain ⟨a, cap, ss, ts, e, hr, hm, h1⟩ := h
  exact ⟨a, cap, ss, ts, e, hr, hm, h1.below hb⟩
theorem MAns.turned {w w' : World} {v : Value} {X : List (List Int)} {lo hi lo' hi' : Nat} (h : MAns w v X lo hi) (t : Turned w w' lo' hi') (hd : hi ≤ lo' ∨ hi' ≤ lo) : MAns w' v X lo hi := by
  obtain ⟨a, cap, ss, e, hr, hc, h1⟩ := h
  refine ⟨a, cap, ss, e, hr, hc, ?_⟩
  rcases h1 with rfl | ⟨g, rfl, hm⟩
  · exact .inl rfl
  · exact .inr ⟨g, rfl, hm.turned t hd⟩
theorem MAns.below {w w' : World} {v : Value} {X : List (List Int)} {lo hi : Nat} (h : MAns w v X lo hi) (hb : Below w.heap.size w w') : MAns w' v X lo hi := by
  obtain ⟨a, cap, ss, e, hr, hc, h1⟩ := h
  refine ⟨a, cap, ss, e, hr, hc, ?_⟩
  rcases h1 with rfl | ⟨g, rfl, hm⟩
  · exact .inl rfl
  · exact .inr ⟨g, rfl, hm.below hb⟩
/-- What an answer of rows of numbers is: new memory alone. -/
def MPost (X : List (List Int)) (w : World) (e : Ending) (w' : World) : Prop := ∃ v, e = .returned v ∧ MAns w' v X w.heap.size w'.heap.size ∧ Below w.heap.size w w'
/-- Rows that a machine can hold. -/
def MFit (X : List (List Int)) : Prop := X.length + xsum X ≤ 1048576
theorem rows_fit {ss : List SR} {X : List (List Int)} (hr : rws ss = X) (hf : MFit X) : ss.length ≤ 1048576 ∧ (∀ s ∈ ss, s.row.length ≤ 1048576) ∧ msum ss = xsum X ∧ xsum X ≤ 1048576 := by
  have h1 : ss.length = X.length := by rw [← hr, rws_len]
  have h2 : msum ss = xsum X := by rw [msum_rws, hr]
  have h3 := hf
  unfold MFit at h3
  exact ⟨by omega, fun s hs => by have := msum_mem hs; omega, h2, by omega⟩
end Go.Proofs.YtoaifodmjkhiiaaDoor
/- NestF: A row of rows of numbers that is made row by row, by append. -/
namespace Go.Proofs.YtoaifodmjkhiiaaDoor
set_option maxRecDepth 100000
open Go.RowKit

/-- A row of numbers is not the row of rows. -/
theorem row_apart {w : World} {b B t n : Nat} {v : Value} {row : List Int} {ts : List SR} (h : WCells w b (ics row)) (hr : row ≠ []) (ho : w.ownsRow B t 1 v n (svs ts)) (hts : ts ≠ []) : v.ownBlock ≠ some b := by
  intro e
  have hc := ho.cells e
  obtain ⟨x, r, rfl⟩ := List.exists_cons_of_ne_nil hr
  obtain ⟨s, t', rfl⟩ := List.exists_cons_of_ne_nil hts
  have h1 := (h.2 0 (.int .i64 x) rfl).1
  have h2 := hc 0 (srv s) rfl
  have e2 : (⟨b, 0, none⟩ : Addr).add 0 = ⟨b, 0, none⟩ := by simp [Addr.add]
  rw [e2, h1] at h2
  simp [srv] at h2
/-- Where the making of a row of rows stands. -/
structure BI (w wr : World) (v : Value) (ts : List SR) : Prop where
  own : wr.ownsRow w.heap.size 97 1 v ts.length (svs ts)
  rows : ∀ s ∈ ts, ∃ b, s.loc = some ⟨b, 0, none⟩ ∧ w.heap.size ≤ b ∧ WCells wr b (ics s.row) ∧ s.row.length ≤ s.cap ∧ s.row ≠ []
  apart : (ts.map SR.loc).Nodup
  bel : Below w.heap.size w wr
theorem BI.start (w : World) {wr : World} {v : Value} (ho : wr.ownsRow w.heap.size 97 1 v 0 []) (hb : Below w.heap.size w wr) : BI w wr v [] := ⟨ho, by simp, List.nodup_nil, hb⟩
theorem BI.below {w wr w' : World} {v : Value} {ts : List SR} (h : BI w wr v ts) (hb : Below wr.heap.size wr w') : BI w w' v ts :=
  ⟨h.own.kept (row := none) ⟨hb.os, hb.tape, hb.output, hb.size, fun k hk _ => hb.block k hk⟩ (Classical.em _), fun s hs => by
    obtain ⟨b, e, q1, q2, q3⟩ := h.rows s hs
    exact ⟨b, e, q1, q2.below hb q2.1, q3⟩, h.apart, h.bel.trans (hb.mono h.bel.size)⟩
/-- A block beyond is turned. -/
theorem BI.other {w wr w' : World} {v : Value} {ts : List SR} {B g : Nat} (h : BI w wr v ts) (hg : wr.grownBy w' (some g)) (hB : B ≤ g) (ho : ∀ q, v.ownBlock = some q → q < B) (hr : ∀ s ∈ ts, ∀ b, s.loc = some ⟨b, 0, none⟩ → b < B) (hw : w.heap.size ≤ B) (hs : w.heap.size ≤ wr.heap.size) : BI w w' v ts := by
  refine ⟨h.own.kept hg (.inr fun e => by have := ho g e; omega), fun s hs' => ?_, h.apart, h.bel.grown hg hs (fun k e => by cases e; omega)⟩
  obtain ⟨b, e, q1, q2, q3⟩ := h.rows s hs'
  exact ⟨b, e, q1, q2.apart hg (by have := hr s hs' b e; omega), q3⟩
theorem BI.append {w wr w1 : World} {v v' : Value} {ts : List SR} {o : Obj} {b : Nat} {row : List Int} {cap : Nat} (h : BI w wr v ts) (hb : w.heap.size ≤ b) (hrow : WCells wr b (ics row)) (hne : row ≠ []) (hcap : row.length ≤ cap)
    (hv : ∀ q, v.ownBlock = some q → q ≠ b) (hnew : ∀ s ∈ ts, s.loc ≠ some ⟨b, 0, none⟩)
    (hown : w1.ownsRow w.heap.size 97 1 v' (ts.length + 1) (svs ts ++ [.slice (some ⟨b, 0, none⟩) row.length cap])) (hg : (wr.alloc o).grownBy w1 v.ownBlock) : BI w w1 v' (ts ++ [SR.mk (some ⟨b, 0, none⟩) row cap]) := by
  have keep : ∀ {c : Nat} {L : List Value}, WCells wr c L → (∀ q, v.ownBlock = some q → q ≠ c) → WCells w1 c L := fun {c L} hc hq => by
    have h1 : WCells (wr.alloc o) c L := hc.below ((Below.refl wr.heap.size wr).alloc (Nat.le_refl _) o) hc.1
    refine ⟨Nat.lt_of_lt_of_le h1.1 hg.size, fun i u hu => ?_⟩
    have hbk : w1.heap[c]? = (wr.alloc o).heap[c]? := hg.block c h1.1 (fun e => hq c e.symm rfl)
    exact ⟨(World.cell?_of_block (a := ⟨c, i, none⟩) hbk).trans (h1.2 i u hu).1, (World.frozen?_of_block (a := ⟨c, i, none⟩) hbk).trans (h1.2 i u hu).2⟩
  refine ⟨?_, fun s hs => ?_, ?_, (h.bel.alloc h.bel.size o).grown hg (by have := h.bel.size; simp; omega) (fun k e => (h.own.lt k e).1)⟩
  · have e : svs (ts ++ [SR.mk (some ⟨b, 0, none⟩) row cap]) = svs ts ++ [.slice (some ⟨b, 0, none⟩) row.length cap] := by simp [svs, srv]
    rw [e, List.length_append]
    exact hown
  · rcases List.mem_append.1 hs with h1 | h1
    · obtain ⟨c, e, q1, q2, q3, q4⟩ := h.rows s h1
      refine ⟨c, e, q1, keep q2 (fun q hq => ?_), q3, q4⟩
      have := row_apart q2 q4 h.own (List.ne_nil_of_mem h1)
      intro e2; subst e2; exact this hq
    · simp at h1
      subst h1
      exact ⟨b, rfl, hb, keep hrow hv, hcap, hne⟩
  · rw [List.map_append, List.nodup_append]
    refine ⟨h.apart, by simp, fun l hl l' hl' => ?_⟩
    obtain ⟨s, hs, rfl⟩ := List.mem_map.1 hl
    simp only [List.map_cons, List.map_nil, List.mem_singleton] at hl'
    subst hl'
    exact hnew s hs
theorem BI.fin {w wr : World} {v : Value} {ts : List SR} {X : List (List Int)} (h : BI w wr v ts) (hX : rws ts = X) : MAns wr v X w.heap.size wr.heap.size := by
  have hlt := h.own.lt
  have hown := h.own
  obtain ⟨_, ⟨rfl, h0⟩ | ⟨g, cap, cur, rfl, hB, hcur, hn, _⟩⟩ := hown
  · have : ts = [] := List.eq_nil_of_length_eq_zero h0
    subst this
    exact ⟨none, 0, [], rfl, hX, Nat.le_refl _, .inl rfl⟩
  · refine ⟨_, cap, ts, rfl, hX, hn, ?_⟩
    by_cases hts : ts = []
    · exact .inl hts
    · refine .inr ⟨g, rfl, own_wcells h.own, hB, (hlt g rfl).2, fun s hs => ?_, h.apart⟩
      obtain ⟨b, e, q1, q2, q3, q4⟩ := h.rows s hs
      refine ⟨b, e, q1, q2.1, fun eb => ?_, q2, q3⟩
      subst eb
      exact row_apart q2 q4 h.own hts rfl
end Go.Proofs.YtoaifodmjkhiiaaDoor
/- MatA: The walk of the model's MatrixOk. -/
namespace Go.Proofs.YtoaifodmjkhiiaaDoor
set_option maxRecDepth 100000
open Go.RowKit
attribute [local go_sem ↓] Go.wp_at_zero Go.wp_at_succ

theorem lIn_is (x a b : Int) (w : World) (r : Bool) (h : (decide (a ≤ x) && decide (x ≤ b)) = r) : Calls Tryd.prog 78 #[.int .i64 x, .int .i64 a, .int .i64 b] w fun e w' => e = .returned (.bool r) ∧ w' = w := by
  rw [← h]; exact l01In_any x a b w
/-- A row of a matrix that is right. -/
def numOk (y : Int) : Bool := decide (0 ≤ y) && decide (y ≤ 255)
def rowOk (c : Nat) (x : List Int) : Bool := decide (x.length = c) && (decide (1 ≤ (x.length : Int)) && decide ((x.length : Int) ≤ 8)) && x.all numOk
/-- A matrix that is right. -/
def matOk (X : List (List Int)) : Bool := X.all (rowOk (X.headD []).length) && (decide (1 ≤ (X.length : Int)) && decide ((X.length : Int) ≤ 8))
theorem matOk_no {X : List (List Int)} {x : List Int} (hx : x ∈ X) (h : rowOk (X.headD []).length x = false) : matOk X = false := by
  unfold matOk
  have : X.all (rowOk (X.headD []).length) = false := by rw [List.all_eq_false]; exact ⟨x, hx, by rw [h]; simp⟩
  rw [this]; rfl
theorem matOk_end {X : List (List Int)} (h : ∀ x ∈ X, rowOk (X.headD []).length x = true) : matOk X = (decide (1 ≤ (X.length : Int)) && decide ((X.length : Int) ≤ 8)) := by
  unfold matOk
  rw [List.all_eq_true.2 h, Bool.true_and]
theorem rowOk_num {c : Nat} {x : List Int} {k : Nat} (hk : k < x.length) (h : numOk (x.getD k 0) = false) : rowOk c x = false := by
  unfold rowOk
  have e : x.getD k 0 = x[k] := by simp [List.getD, hk]
  rw [e] at h
  have : x.all numOk = false := by rw [List.all_eq_false]; exact ⟨x[k], List.getElem_mem hk, by rw [h]; simp⟩
  rw [this, Bool.and_false]
theorem rowOk_yes {c : Nat} {x : List Int} (h1 : x.length = c) (h2 : (decide (1 ≤ (x.length : Int)) && decide ((x.length : Int) ≤ 8)) = true) (h3 : ∀ k, k < x.length → numOk (x.getD k 0) = true) : rowOk c x = true := by
  unfold rowOk
  rw [decide_eq_true h1, h2, Bool.true_and, Bool.true_and, List.all_eq_true]
  intro y hy
  obtain ⟨k, hk, rfl⟩ := List.mem_iff_getElem.1 hy
  have := h3 k hk
  simpa [List.getD, hk] using this
set_option maxRecDepth 100000 in
set_option maxHeartbeats 2000000 in
theorem specMatrixOk {w : World} {v : Value} {X : List (List Int)} {lo hi : Nat} (hs : MSee w v X lo hi) (hf : MFit X) :
    Calls Tryd.prog 80 #[v] w fun e w' => e = .returned (.bool (matOk X)) ∧ Below w.heap.size w w' := by
  obtain ⟨a, cap, ss, rfl, hr, hm⟩ := hs
  obtain ⟨hl, hrl, _, _⟩ := rows_fit hr hf
  have HM : Hid (MR w a ss lo hi) := hm
  have HX : Hid (rws ss = X ∧ ∀ s ∈ ss, s.row.length ≤ 1048576) := ⟨hr, hrl⟩
  obtain ⟨n, hn⟩ : ∃ n, n = ss.length := ⟨_, rfl⟩
  have HN : Hid (n = ss.length ∧ X.length = n) := ⟨hn, by rw [← hr, rws_len, hn]⟩
  rw [← hn]
  rw [← hn] at hl
  clear hm hr hrl hf hn
  obtain ⟨c, hc⟩ : ∃ c, c = (X.headD []).length := ⟨_, rfl⟩
  have HC : Hid (c = (X.headD []).length) := hc
  clear hc
  go_enter Tryd.func80, Tryd.ntmps80
  go_wp2_with fail
  go_loopw [3] (fun i wr => ∃ (k : Nat), i = .int .i64 k ∧ k ≤ n ∧ (∀ j (h : j < ss.length), j < k → rowOk c ss[j].row = true) ∧ Below w.heap.size w wr) (fun i _ => n - (intOf i).toNat)
  case atStart => exact ⟨0, rfl, by omega, fun j _ h => by omega, Below.refl _ _⟩
  case round =>
    obtain ⟨k, rfl, hk, hok, hbl⟩ := hrel
    obtain ⟨wo, rfl⟩ : ∃ wo, wo = wr := ⟨_, rfl⟩
    have HOK : Hid (∀ j (h : j < ss.length), j < k → rowOk c ss[j].row = true) := hok
    clear hok
    by_cases hlt : k < n
    · have hls : k < ss.length := by have := HN.out.1; omega
      have h0s : 0 < ss.length := by omega
      have HM' := HM.out.below hbl
      obtain ⟨b, off, rfl, lb, hcell⟩ := HM'.at h0s
      have d1 := hcell k hls
      have d0 : wo.cell? ⟨b, off, none⟩ = some (srv ss[0]) := hcell 0 h0s
      have hhead : (ss[0].row).length = c := by
        rw [HC.out, ← HX.out.1]
        have : (rws ss).headD [] = ss[0].row := by cases ss with | nil => simp at h0s | cons s t => rfl
        rw [this]
      have hrr := (HM'.2 ss[k] (List.getElem_mem hls)).crow
      have hmem : ss[k].row ∈ X := by rw [← HX.out.1]; exact List.mem_map.2 ⟨ss[k], List.getElem_mem hls, rfl⟩
      have hle := HX.out.2 ss[k] (List.getElem_mem hls)
      have HSK : Hid (∀ x : List Int, ss[k].row = x → rowOk c x = true → ∀ j (h : j < ss.length), j < k + 1 → rowOk c ss[j].row = true) := fun x hx hxo j hj hjk => by
        by_cases e : j = k
        · subst e; rw [hx]; exact hxo
        · exact HOK.out j hj (by omega)
      unfold srv at d0 d1
      rw [hhead] at d0
      generalize ss[0].loc = loc0 at d0
      generalize ss[0].cap = cp0 at d0
      obtain ⟨row, hrow⟩ : ∃ row, row = ss[k].row := ⟨_, rfl⟩
      have HROW : Hid (ss[k].row = row ∧ row ∈ X) := ⟨hrow.symm, by rw [hrow]; exact hmem⟩
      rw [← hrow] at d1 hrr hle
      generalize ss[k].loc = loc at *
      generalize ss[k].cap = cp at *
      have k0 : (0 : Int) ≤ (k : Int) := by omega
      have k1 : (k : Int) < (n : Int) := by omega
      have n0 : (0 : Int) < (n : Int) := by omega
      have HB : Hid (Below w.heap.size w wo) := hbl
      have HRR : Hid (CRow wo loc (ics row)) := hrr
      clear hrow hcell hhead hmem hrr HM' hbl
      by_cases hlen : row.length = c
      · subst hlen
        have e1 : ((row.length : Int) != (row.length : Int)) = false := by simp
        obtain ⟨r, hrb⟩ : ∃ r, (decide ((1 : Int) ≤ (row.length : Int)) && decide ((row.length : Int) ≤ 8)) = r := ⟨_, rfl⟩
        cases r
        · have HNO : Hid (matOk X = false) := matOk_no HROW.out.2 (by rw [← HC.out]; unfold rowOk; rw [hrb]; simp)
          go_wp2_with fail
          go_quiet ((go_at_call 78; exact Calls.quiet_of_same (lIn_is _ _ _ _ false hrb)))
          go_wp2_with fail
          go_ret
          exact ⟨by rw [HNO.out]; rfl, HB.out.trans ⟨rfl, rfl, rfl, Nat.le_refl _, fun _ _ => rfl⟩⟩
        · have HRB : Hid _ := hrb
          go_wp2_with fail
          go_quiet ((go_at_call 78; exact Calls.quiet_of_same (lIn_is _ _ _ _ true hrb)))
          go_wp2_with fail
          go_loopw [4] (fun i wq => ∃ (t : Nat), i = .int .i64 t ∧ t ≤ row.length ∧ (∀ u, u < t → numOk (row.getD u 0) = true) ∧ Below wo.heap.size wo wq) (fun i _ => row.length - (intOf i).toNat)
          case atStart => exact ⟨0, rfl, by omega, fun u h => by omega, ⟨rfl, rfl, rfl, Nat.le_refl _, fun _ _ => rfl⟩⟩
          case round =>
            obtain ⟨t, rfl, ht, hnum, hbq⟩ := hrel
            have HNUM : Hid (∀ u, u < t → numOk (row.getD u 0) = true) := hnum
            clear hnum
            have dq : wr.cell? ⟨b, off + k, none⟩ = some (.slice loc row.length cp) := (hbq.cell (p := ⟨b, off + k, none⟩) lb).trans d1
            have hqs := hbq.size
            have lbq : b < wr.heap.size := by omega
            by_cases htl : t < row.length
            · obtain ⟨b3, o3, rfl, l3, hc3⟩ := crow_int (HRR.out.stays hbq) (by omega)
              have d3 := hc3 t htl
              obtain ⟨y, hy⟩ : ∃ y, y = row.getD t 0 := ⟨_, rfl⟩
              have HY : Hid (y = row.getD t 0) := hy
              rw [← hy] at d3
              have t0 : (0 : Int) ≤ (t : Int) := by omega
              have t1 : (t : Int) < (row.length : Int) := by omega
              have HBQ : Hid (Below wo.heap.size wo wr) := hbq
              obtain ⟨q, hq⟩ : ∃ q, (decide ((0 : Int) ≤ y) && decide (y ≤ 255)) = q := ⟨_, rfl⟩
              clear hc3 hy hbq
              cases q
              · have HNO : Hid (matOk X = false) := matOk_no HROW.out.2 (by rw [← HC.out]; exact rowOk_num htl (by rw [← HY.out]; exact hq))
                go_wp2_with fail
                refine (lIn_is _ _ _ _ false hq).mono ?_
                rintro e w5 ⟨rfl, rfl⟩
                go_wp2_with fail
                go_ret
                exact ⟨by rw [HNO.out]; rfl, HB.out.trans (HBQ.out.mono HB.out.size)⟩
              · have HQ : Hid (numOk (row.getD t 0) = true) := by rw [← HY.out]; exact hq
                go_wp2_with fail
                refine (lIn_is _ _ _ _ true hq).mono ?_
                rintro e w5 ⟨rfl, rfl⟩
                go_wp2_with fail
                go_roundw
                case rel => exact ⟨t + 1, by go_num, by omega, fun u hu => by
                  by_cases e : u = t
                  · subst e; exact HQ.out
                  · exact HNUM.out u (by omega), HBQ.out⟩
                case measure => simp [intOf]; omega
            · have e : t = row.length := by omega
              have HALL : Hid (rowOk row.length row = true) := rowOk_yes rfl HRB.out (fun u hu => HNUM.out u (by omega))
              have HBQ : Hid (Below wo.heap.size wo wr) := hbq
              clear hbq e
              go_wp2_with fail
              go_roundw
              case rel => exact ⟨k + 1, by go_num, by omega, HSK.out row HROW.out.1 HALL.out, HB.out.trans (HBQ.out.mono HB.out.size)⟩
              case measure => simp [intOf]; omega
      · have e1 : ((row.length : Int) != (c : Int)) = true := by rw [bne_iff_ne]; omega
        have HNO : Hid (matOk X = false) := matOk_no HROW.out.2 (by rw [← HC.out]; unfold rowOk; rw [decide_eq_false hlen]; rfl)
        go_wp2_with fail
        go_quiet (fail)
        go_wp2_with fail
        go_ret
        exact ⟨by rw [HNO.out]; rfl, HB.out.trans ⟨rfl, rfl, rfl, Nat.le_refl _, fun _ _ => rfl⟩⟩
    · have e : k = n := by omega
      have HEND : Hid (matOk X = (decide ((1 : Int) ≤ (n : Int)) && decide ((n : Int) ≤ 8))) := by
        have h1 : ∀ x ∈ X, rowOk (X.headD []).length x = true := fun x hx => by
          rw [← HX.out.1] at hx
          obtain ⟨s, hs, rfl⟩ := List.mem_map.1 hx
          obtain ⟨j, hj, rfl⟩ := List.mem_iff_getElem.1 hs
          rw [← HC.out]
          exact HOK.out j hj (by have := HN.out.1; omega)
        have := matOk_end h1
        rw [HN.out.2] at this
        exact this
      have HB : Hid (Below w.heap.size w wo) := hbl
      clear hbl
      subst e
      obtain ⟨q, hq⟩ : ∃ q, (decide ((1 : Int) ≤ (k : Int)) && decide ((k : Int) ≤ 8)) = q := ⟨_, rfl⟩
      have HQ : Hid (matOk X = q) := by rw [← hq]; exact HEND.out
      go_wp2_with fail
      refine (lIn_is _ _ _ _ q hq).mono ?_
      rintro e w5 ⟨rfl, rfl⟩
      go_wp2_with fail
      go_ret
      exact ⟨by rw [HQ.out]; rfl, HB.out⟩
end Go.Proofs.YtoaifodmjkhiiaaDoor
/- MatB: The walk of the model's OneM. -/
namespace Go.Proofs.YtoaifodmjkhiiaaDoor
set_option maxRecDepth 100000
open Go.RowKit
attribute [local go_sem ↓] Go.wp_at_zero Go.wp_at_succ

/-- OneM, as it is answered. -/
def oneRow (n i : Nat) : List Int := (List.range n).map fun j => if i = j then 1 else 0
def oneX (n : Int) : List (List Int) := if 1 ≤ n ∧ n ≤ 8 then (List.range n.toNat).map (oneRow n.toNat) else []
theorem oneRow_len (n i : Nat) : (oneRow n i).length = n := by simp [oneRow]
theorem oneRow_set {n i : Nat} (_ : i < n) : (List.replicate n (0 : Int)).set i 1 = oneRow n i := by
  apply List.ext_getElem
  · simp [oneRow]
  · intro j h1 h2
    simp only [oneRow, List.getElem_map, List.getElem_range, List.getElem_set]
    by_cases e : i = j
    · rw [if_pos e, if_pos e]
    · rw [if_neg e, if_neg e]; simp
set_option maxRecDepth 100000 in
set_option maxHeartbeats 2000000 in
theorem specOneM (x : Int) (w : World) : Calls Tryd.prog 82 #[.int .i64 x] w fun e w' => MPost (oneX x) w e w' := by
  by_cases hx : 1 ≤ x ∧ x ≤ 8
  · obtain ⟨n, rfl⟩ := Int.eq_ofNat_of_zero_le (show 0 ≤ x by omega)
    have e0 : oneX (n : Int) = (List.range n).map (oneRow n) := by unfold oneX; rw [if_pos hx]; rfl
    rw [e0]
    have hn1 : 1 ≤ n := by omega
    have hn8 : n ≤ 8 := by omega
    have hin : (decide ((1 : Int) ≤ (n : Int)) && decide ((n : Int) ≤ 8)) = true := by simp; omega
    obtain ⟨i0, hi0, hz0, hz1, hz2⟩ := info_parts infoRow
    obtain ⟨i1, hi1, hy0, hy1, hy2⟩ := info_parts infoIntG
    clear hx e0
    go_enter Tryd.func82, Tryd.ntmps82
    go_wp2_with fail
    go_loopw [3, 4] (fun v i wr => ∃ (ts : List SR) (vv : Value), vv = v ∧ i = .int .i64 (ts.length : Nat) ∧ ts.length ≤ n ∧ Shut (rws ts = (List.range ts.length).map (oneRow n)) ∧ Shut (BI w wr vv ts)) (fun _ i _ => n - (intOf i).toNat)
    case atStart => exact ⟨[], _, rfl, rfl, by simp, ⟨rfl⟩, ⟨BI.start w (World.ownsRow_made w #[] 0 (Nat.le_refl _) (by decide) rfl) ((Below.refl _ _).alloc (Nat.le_refl _) _)⟩⟩
    case round =>
      obtain ⟨ts, v, rfl, rfl, hk, hr, hbi⟩ := hrel
      by_cases hlt : ts.length < n
      · have hlt' : (ts.length : Int) < (n : Int) := by omega
        have k0 : (0 : Int) ≤ (ts.length : Int) := by omega
        have hsz := hbi.out.bel.size
        go_wp2_with fail
        refine (lIn_is _ _ _ _ true hin).mono ?_
        rintro e w1 ⟨rfl, rfl⟩
        go_wp2_with (at_make; refine wpList_make_full _ rfl _ _ 97 rfl w1.heap.size 3 i1 _ 1 Tryd.underlying97 hi1 hy0 hy1 .i64 .i64 _ _ n rfl rfl (by omega) (by omega) ?b2 ?b3 ?b4 ?_)
        case b2 => rw [hy2]; omega
        case b3 => unfold maxLen; omega
        case b4 => omega
        intro wm hownm hgrm
        have hbm : Below w1.heap.size w1 wm := (Below.refl _ _).grown hgrm (Nat.le_refl _) (fun j hj => by simp at hj)
        have hrow : WCells wm w1.heap.size (ics (List.replicate n 0)) := by
          have h := own_wcells hownm
          have e : (madeCells #[Value.int .i64 0] (n * 1)).toList = ics (List.replicate n 0) := by rw [toList_madeCells_one]; simp [ics]
          rw [Nat.mul_one] at e
          first | (rw [e] at h; exact h) | (rw [Nat.mul_one, e] at h; exact h)
        obtain ⟨c0, z0⟩ := hrow.2 ts.length _ (ics_get _ ts.length (by simp; exact hlt))
        have hset := hrow.set ts.length (.int .i64 1) (by rw [ics_len]; simp; exact hlt)
        rw [ics_set, oneRow_set hlt] at hset
        have hbi1 := hbi.out.below hbm
        have hot : BI w (wm.setCell ⟨w1.heap.size, ts.length, none⟩ (.int .i64 1)) v ts := hbi1.other (gb_set' _ _ _ _) (Nat.le_refl w1.heap.size) (fun q hq => (hbi.out.own.lt q hq).2) (fun s hs b e => by obtain ⟨b', e', _, q, _⟩ := hbi.out.rows s hs; have : b' = b := congrArg Addr.block (Option.some.inj (e'.symm.trans e)); have := q.1; omega) hsz hbi1.bel.size
        have HROW : Shut (WCells (wm.setCell ⟨w1.heap.size, ts.length, none⟩ (.int .i64 1)) w1.heap.size (ics (oneRow n ts.length))) := ⟨hset⟩
        have HBI : Shut (BI w (wm.setCell ⟨w1.heap.size, ts.length, none⟩ (.int .i64 1)) v ts) := ⟨hot⟩
        have HNEW : Shut ((∀ q, v.ownBlock = some q → q ≠ w1.heap.size) ∧ ∀ s ∈ ts, s.loc ≠ some ⟨w1.heap.size, 0, none⟩) := ⟨fun q hq => by have := (hbi.out.own.lt q hq).2; omega, fun s hs e => by obtain ⟨b', e', _, q, _⟩ := hbi.out.rows s hs; have : b' = w1.heap.size := congrArg Addr.block (Option.some.inj (e'.symm.trans e)); have := q.1; omega⟩
        clear hset hot hrow hownm hgrm hbi hbi1
        go_upto_region 7 with fail
        obtain ⟨W2, hW2⟩ : ∃ W2, W2 = wm.setCell ⟨w1.heap.size, ts.length, none⟩ (.int .i64 1) := ⟨_, rfl⟩
        rw [← hW2]
        rw [← hW2] at HROW HBI
        have hs2 : w.heap.size ≤ W2.heap.size := HBI.out.bel.size
        have hown := HBI.out.own
        clear hW2 c0 z0 hbm
        go_wp2_with (at_builtin; refine wpList_append_own _ rfl _ _ 113 rfl w.heap.size 97 i0 (.slice none 0 0) 1 24 Tryd.underlying113 hi0 hz0 hz1 hz2 rfl (by decide) _ _ _ rfl (hown.alloc _) ⟨W2.heap.size, 0, none⟩ 1 1 [.slice (some ⟨w1.heap.size, 0, none⟩) n n] rfl rfl (cell_one_new _ _ _) ?c2 ?c3 ?c4 ?c5 ?_)
        case c2 => first | rfl | (intro u hu; simp at hu; subst hu; rfl)
        case c3 => unfold maxLen; omega
        case c4 => omega
        case c5 => first | omega | (simp; omega)
        · intro v' w6 hown' hgrow _
          have hne : oneRow n ts.length ≠ [] := fun e => by have := congrArg List.length e; rw [oneRow_len] at this; simp at this; omega
          have hap := HBI.out.append (cap := n) hsz HROW.out hne (by rw [oneRow_len]; exact Nat.le_refl _) HNEW.out.1 HNEW.out.2 (by rw [oneRow_len]; exact hown') hgrow
          have HAP : Shut (BI w w6 v' (ts ++ [SR.mk (some ⟨w1.heap.size, 0, none⟩) (oneRow n ts.length) n])) := ⟨hap⟩
          have HR : Shut (rws (ts ++ [SR.mk (some ⟨w1.heap.size, 0, none⟩) (oneRow n ts.length) n]) = (List.range (ts.length + 1)).map (oneRow n)) := ⟨by rw [rws_snoc, hr.out, List.range_succ, List.map_append]; rfl⟩
          clear hap hown' hgrow hown HBI HROW HNEW hr
          go_wp2_with fail
          go_roundw
          case rel => exact ⟨_, v', rfl, by rw [List.length_append, List.length_singleton]; go_num, by rw [List.length_append, List.length_singleton]; omega, ⟨by rw [List.length_append, List.length_singleton]; exact HR.out⟩, HAP⟩
          case measure => simp [intOf]; omega
      · have e : ts.length = n := by omega
        have hlt' : ¬ (ts.length : Int) < (n : Int) := by omega
        have hX : rws ts = (List.range n).map (oneRow n) := by rw [hr.out, e]
        have hfin := hbi.out.fin hX
        have HF : Shut (MAns wr v ((List.range n).map (oneRow n)) w.heap.size wr.heap.size) := ⟨hfin⟩
        have HB : Hid (Below w.heap.size w wr) := hbi.out.bel
        clear hX hfin hbi hr e
        go_wp2_with fail
        go_ret
        exact ⟨v, rfl, HF.out, HB.out⟩
  · have e0 : oneX x = [] := by unfold oneX; rw [if_neg hx]
    have hin : (decide ((1 : Int) ≤ x) && decide (x ≤ 8)) = false := by simp only [Bool.and_eq_false_iff, decide_eq_false_iff_not]; omega
    rw [e0]
    clear e0 hx
    go_enter Tryd.func82, Tryd.ntmps82
    go_wp2_with fail
    go_loopw [3, 4] (fun v i wr => v = .slice (some ⟨w.heap.size, 0, none⟩) 0 0 ∧ i = .int .i64 0 ∧ Below w.heap.size w wr) (fun _ _ _ => 0)
    case atStart => exact ⟨rfl, rfl, (Below.refl _ _).alloc (Nat.le_refl _) _⟩
    case round =>
      obtain ⟨rfl, rfl, hb⟩ := hrel
      have HB : Hid (Below w.heap.size w wr) := hb
      clear hb
      by_cases h0 : 0 < x
      · go_wp2_with fail
        refine (lIn_is _ _ _ _ false hin).mono ?_
        rintro e w1 ⟨rfl, rfl⟩
        go_wp2_with fail
        go_ret
        exact ⟨_, rfl, MAns.empty _ _ _ _ _, HB.out⟩
      · go_wp2_with fail
        go_ret
        exact ⟨_, rfl, MAns.empty _ _ _ _ _, HB.out⟩
end Go.Proofs.YtoaifodmjkhiiaaDoor
/- FieldM: Plain facts on the field of bytes: products of polynomials over bits, modulo the one of the number 285; nothing of the program is read here. -/
namespace Go.Proofs.YtoaifodmjkhiiaaDoor.W
abbrev B8 := BitVec 8

/-- Twice a number. -/
def xt (a : B8) : B8 := if a.msb then (a <<< 1) ^^^ 29#8 else a <<< 1
def gb (b : B8) (i : Nat) (x : B8) : B8 := if b.getLsbD i then x else 0#8
def gm (a b : B8) : B8 :=
  gb b 0 a ^^^ (gb b 1 (xt a) ^^^ (gb b 2 (xt (xt a)) ^^^ (gb b 3 (xt (xt (xt a))) ^^^ (gb b 4 (xt (xt (xt (xt a)))) ^^^ (gb b 5 (xt (xt (xt (xt (xt a))))) ^^^ (gb b 6 (xt (xt (xt (xt (xt (xt a)))))) ^^^ gb b 7 (xt (xt (xt (xt (xt (xt (xt a)))))))))))))
theorem xor_swap (a b c d : B8) : (a ^^^ b) ^^^ (c ^^^ d) = (a ^^^ c) ^^^ (b ^^^ d) := by
  rw [BitVec.xor_assoc, BitVec.xor_assoc, ← BitVec.xor_assoc b c d, BitVec.xor_comm b c, BitVec.xor_assoc c b d]
theorem xor_two (a b : B8) {A B C : B8} (h : A ^^^ B = C) : (a ^^^ A) ^^^ (b ^^^ B) = (a ^^^ b) ^^^ C := by rw [xor_swap, h]
theorem xt_add (a b : B8) : xt (a ^^^ b) = xt a ^^^ xt b := by
  unfold xt
  rw [BitVec.msb_xor, BitVec.shiftLeft_xor_distrib]
  cases a.msb <;> cases b.msb <;> simp
  · rw [BitVec.xor_assoc]
  · rw [BitVec.xor_assoc, BitVec.xor_assoc, BitVec.xor_comm (b <<< 1)]
  · rw [xor_swap, BitVec.xor_self, BitVec.xor_zero]
theorem gb_add (b : B8) (i : Nat) (x y : B8) : gb b i (x ^^^ y) = gb b i x ^^^ gb b i y := by
  unfold gb; cases b.getLsbD i <;> simp
theorem gb_bits (b c : B8) (i : Nat) (x : B8) : gb (b ^^^ c) i x = gb b i x ^^^ gb c i x := by
  unfold gb
  rw [BitVec.getLsbD_xor]
  cases b.getLsbD i <;> cases c.getLsbD i <;> simp
theorem gm_left (a b c : B8) : gm (a ^^^ b) c = gm a c ^^^ gm b c := by
  unfold gm
  simp only [xt_add, gb_add]
  exact (xor_two _ _ (xor_two _ _ (xor_two _ _ (xor_two _ _ (xor_two _ _ (xor_two _ _ (xor_two _ _ rfl))))))).symm
theorem gm_right (a b c : B8) : gm a (b ^^^ c) = gm a b ^^^ gm a c := by
  unfold gm
  simp only [gb_bits]
  exact (xor_two _ _ (xor_two _ _ (xor_two _ _ (xor_two _ _ (xor_two _ _ (xor_two _ _ (xor_two _ _ rfl))))))).symm
theorem xt_zero : xt 0#8 = 0#8 := by decide
theorem gb_zero (b : B8) (i : Nat) : gb b i 0#8 = 0#8 := by unfold gb; simp
theorem gm_zero (a : B8) : gm a 0#8 = 0#8 := by unfold gm gb; simp
theorem zero_gm (a : B8) : gm 0#8 a = 0#8 := by unfold gm; simp only [xt_zero, gb_zero]; simp
/-- One round of the product: the lowest bit, and the rest of them with twice the number. -/
theorem gm_step (a b : B8) : gm a b = gb b 0 a ^^^ gm (xt a) (b >>> 1) := by
  have e : ∀ (i : Nat) (x : B8), gb (b >>> 1) i x = gb b (i + 1) x := fun i x => by unfold gb; rw [BitVec.getLsbD_ushiftRight, Nat.add_comm]
  have h8 : ∀ x : B8, gb b 8 x = 0#8 := fun x => by unfold gb; rw [BitVec.getLsbD_of_ge b 8 (by decide)]; rfl
  unfold gm
  simp only [e]
  rw [show 7 + 1 = 8 from rfl, h8]
  simp
/-- The bits of a number. -/
theorem bits_of : ∀ x : B8, x = gb x 0 1#8 ^^^ (gb x 1 2#8 ^^^ (gb x 2 4#8 ^^^ (gb x 3 8#8 ^^^ (gb x 4 16#8 ^^^ (gb x 5 32#8 ^^^ (gb x 6 64#8 ^^^ gb x 7 128#8)))))) := by decide +kernel
def adds (f : B8 → B8) : Prop := ∀ x y, f (x ^^^ y) = f x ^^^ f y
theorem adds.zero {f : B8 → B8} (h : adds f) : f 0#8 = 0#8 := by
  have := h 0#8 0#8
  rw [BitVec.xor_self, BitVec.xor_self] at this
  exact this
theorem adds.bit {f : B8 → B8} (h : adds f) (x : B8) (i : Nat) (y : B8) : f (gb x i y) = gb x i (f y) := by
  unfold gb; cases x.getLsbD i
  · simp [h.zero]
  · simp
/-- What goes through sums is told by its answers at the eight bits. -/
theorem adds.ext {f g : B8 → B8} (hf : adds f) (hg : adds g) (h : ∀ e ∈ [1#8, 2#8, 4#8, 8#8, 16#8, 32#8, 64#8, 128#8], f e = g e) (x : B8) : f x = g x := by
  have key : ∀ {f : B8 → B8}, adds f → f x = gb x 0 (f 1#8) ^^^ (gb x 1 (f 2#8) ^^^ (gb x 2 (f 4#8) ^^^ (gb x 3 (f 8#8) ^^^ (gb x 4 (f 16#8) ^^^ (gb x 5 (f 32#8) ^^^ (gb x 6 (f 64#8) ^^^ gb x 7 (f 128#8))))))) := fun {f} hf => by
    conv => lhs; rw [bits_of x]
    rw [hf, hf, hf, hf, hf, hf, hf]
    simp only [hf.bit]
  rw [key hf, key hg]
  rw [h 1#8 (by simp), h 2#8 (by simp), h 4#8 (by simp), h 8#8 (by simp), h 16#8 (by simp), h 32#8 (by simp), h 64#8 (by simp), h 128#8 (by simp)]
def eightB : List B8 := [1#8, 2#8, 4#8, 8#8, 16#8, 32#8, 64#8, 128#8]
theorem gm_comm_bits : ∀ x ∈ eightB, ∀ y ∈ eightB, gm x y = gm y x := by decide +kernel
theorem gm_comm (a b : B8) : gm a b = gm b a := by
  refine adds.ext (f := fun x => gm x b) (g := fun x => gm b x) (fun x y => gm_left x y b) (fun x y => gm_right b x y) (fun e he => ?_) a
  exact adds.ext (f := fun y => gm e y) (g := fun y => gm y e) (fun x y => gm_right e x y) (fun x y => gm_left x y e) (fun d hd => gm_comm_bits e he d hd) b
theorem gm_assoc_bits : ∀ x ∈ eightB, ∀ y ∈ eightB, ∀ z ∈ eightB, gm (gm x y) z = gm x (gm y z) := by decide +kernel
theorem gm_assoc (a b c : B8) : gm (gm a b) c = gm a (gm b c) := by
  refine adds.ext (f := fun x => gm (gm x b) c) (g := fun x => gm x (gm b c)) (fun x y => by simp only [gm_left]) (fun x y => gm_left x y _) (fun e he => ?_) a
  refine adds.ext (f := fun y => gm (gm e y) c) (g := fun y => gm e (gm y c)) (fun x y => by simp only [gm_right, gm_left]) (fun x y => by simp only [gm_left, gm_right]) (fun d hd => ?_) b
  exact adds.ext (f := fun z => gm (gm e d) z) (g := fun z => gm e (gm d z)) (fun x y => gm_right _ x y) (fun x y => by simp only [gm_right]) (fun g hg => gm_assoc_bits e he d hd g hg) c
theorem gm_one (a : B8) : gm a 1#8 = a := by
  unfold gm gb; simp
theorem one_gm (a : B8) : gm 1#8 a = a := by rw [gm_comm, gm_one]
/-- Powers. -/
def gp (a : B8) : Nat → B8
  | 0 => 1#8
  | n + 1 => gm (gp a n) a
theorem gp_0 (a : B8) : gp a 0 = 1#8 := rfl
theorem gp_succ (a : B8) (n : Nat) : gp a (n + 1) = gm (gp a n) a := rfl
theorem gp_add (a : B8) (n : Nat) : ∀ m, gm (gp a n) (gp a m) = gp a (n + m)
  | 0 => gm_one _
  | m + 1 => by rw [gp, ← gm_assoc, gp_add a n m]; rfl
theorem gp_two (a : B8) (n : Nat) : gp a (n + n) = gm (gp a n) (gp a n) := (gp_add a n n).symm
theorem gp_one (a : B8) : gp a 1 = a := one_gm a
/-- The product of the powers by 1, 2, 4 .. 128. -/
def round (a : B8) : B8 :=
  let b := gm a a; let c := gm b b; let d := gm c c; let e := gm d d; let f := gm e e; let g := gm f f; let h := gm g g
  gm a (gm b (gm c (gm d (gm e (gm f (gm g h))))))
theorem gp_round (a : B8) : gp a 255 = round a := by
  have h2 : gp a 2 = gm a a := by rw [show 2 = 1 + 1 from rfl, gp_two, gp_one]
  have h4 : gp a 4 = gm (gp a 2) (gp a 2) := gp_two a 2
  have h8 : gp a 8 = gm (gp a 4) (gp a 4) := gp_two a 4
  have h16 : gp a 16 = gm (gp a 8) (gp a 8) := gp_two a 8
  have h32 : gp a 32 = gm (gp a 16) (gp a 16) := gp_two a 16
  have h64 : gp a 64 = gm (gp a 32) (gp a 32) := gp_two a 32
  have h128 : gp a 128 = gm (gp a 64) (gp a 64) := gp_two a 64
  have s7 : gm (gp a 64) (gp a 128) = gp a 192 := gp_add a 64 128
  have s6 : gm (gp a 32) (gp a 192) = gp a 224 := gp_add a 32 192
  have s5 : gm (gp a 16) (gp a 224) = gp a 240 := gp_add a 16 224
  have s4 : gm (gp a 8) (gp a 240) = gp a 248 := gp_add a 8 240
  have s3 : gm (gp a 4) (gp a 248) = gp a 252 := gp_add a 4 248
  have s2 : gm (gp a 2) (gp a 252) = gp a 254 := gp_add a 2 252
  have s1 : gm (gp a 1) (gp a 254) = gp a 255 := gp_add a 1 254
  rw [← s1, ← s2, ← s3, ← s4, ← s5, ← s6, ← s7, h128, h64, h32, h16, h8, h4, h2, gp_one]
  rfl
theorem round_all : ∀ a : B8, a ≠ 0#8 → round a = 1#8 := by decide +kernel
theorem gp_255 (a : B8) (h : a ≠ 0#8) : gp a 255 = 1#8 := by rw [gp_round, round_all a h]
/-- The number with which one is 1. -/
def gi (a : B8) : B8 := if a = 0#8 then 0#8 else gp a 254
theorem gi_zero : gi 0#8 = 0#8 := if_pos rfl
theorem gm_gi (a : B8) (h : a ≠ 0#8) : gm a (gi a) = 1#8 := by
  unfold gi
  rw [if_neg h, gm_comm, ← gp_255 a h]
  rfl
theorem gi_only {a b : B8} (h : gm a b = 1#8) : b = gi a := by
  have h0 : a ≠ 0#8 := by
    intro e; subst e
    rw [zero_gm] at h
    exact absurd h (by decide)
  rw [← gm_one b, ← gm_gi a h0, ← gm_assoc, gm_comm b a, h, one_gm]
end Go.Proofs.YtoaifodmjkhiiaaDoor.W
/- FieldN: Facts that lead from numbers of the program to the field of bytes, and texts that are summed up or taken so many times. -/
namespace Go.Proofs.YtoaifodmjkhiiaaDoor
set_option maxRecDepth 100000
open Go.RowKit
open W (B8)

theorem i64_xor (m n : Nat) (hm : m < 512) (hn : n < 512) : bits .xor .i64 (m : Int) (n : Int) = ((m ^^^ n : Nat) : Int) := by
  have h1 : ∀ k : Nat, k < 512 → (BitVec.ofInt 64 (k : Int)).toNat = k := fun k hk => by rw [BitVec.toNat_ofInt]; omega
  have h2 : m ^^^ n < 2 ^ 9 := Nat.xor_lt_two_pow (by omega) (by omega)
  show IntKind.i64.wrap ((BitVec.ofInt 64 (m : Int) ^^^ BitVec.ofInt 64 (n : Int)).toNat : Nat) = _
  rw [BitVec.toNat_xor, h1 m hm, h1 n hn, IntKind.wrap_i64]
  omega
theorem b8_lt (A : B8) : A.toNat < 256 := A.isLt
theorem i64_xor8 (A B : B8) : bits .xor .i64 (A.toNat : Int) (B.toNat : Int) = ((A ^^^ B).toNat : Int) := by
  rw [i64_xor _ _ (by have := b8_lt A; omega) (by have := b8_lt B; omega), BitVec.toNat_xor]
/-- A number, taken modulo 256. -/
def g8 (x : Int) : B8 := BitVec.ofInt 8 x
theorem g8_nat (x : Int) : ((g8 x).toNat : Int) = x % 256 := by
  unfold g8
  rw [BitVec.toNat_ofInt]
  omega
theorem g8_back (A : B8) : g8 (A.toNat : Int) = A := by
  apply BitVec.eq_of_toNat_eq
  have := g8_nat (A.toNat : Int)
  have := b8_lt A
  omega
theorem g8_mod (x : Int) : g8 (x % 256) = g8 x := by
  apply BitVec.eq_of_toNat_eq
  have := g8_nat (x % 256)
  have := g8_nat x
  omega
namespace W
theorem xt_big : ∀ A : B8, 256 ≤ 2 * A.toNat → (2 * A.toNat) ^^^ 285 = (xt A).toNat := by decide +kernel
theorem xt_small : ∀ A : B8, 2 * A.toNat < 256 → 2 * A.toNat = (xt A).toNat := by decide +kernel
theorem half8 (B : B8) : B.toNat / 2 = (B >>> 1).toNat := by
  rw [BitVec.toNat_ushiftRight, Nat.shiftRight_eq_div_pow]
theorem odd8 (B : B8) : B.getLsbD 0 = decide (B.toNat % 2 = 1) := by rw [BitVec.getLsbD, Nat.testBit_zero]
theorem b8_zero {B : B8} (h : B.toNat = 0) : B = 0#8 := BitVec.eq_of_toNat_eq h

/-- The sum of two texts. -/
def addL : List UInt8 → List UInt8 → List UInt8
  | [], b => b
  | a, [] => a
  | x :: a, y :: b => (x ^^^ y) :: addL a b
theorem addL_nil (a : List UInt8) : addL a [] = a := by cases a <;> rfl
theorem addL_comm : ∀ (a b : List UInt8), addL a b = addL b a
  | [], b => by rw [addL_nil]; cases b <;> rfl
  | x :: a, [] => rfl
  | x :: a, y :: b => by rw [addL, addL, UInt8.xor_comm, addL_comm a b]
theorem addL_len : ∀ (a b : List UInt8), (addL a b).length = max a.length b.length
  | [], b => by simp [addL]
  | x :: a, [] => by simp [addL]
  | x :: a, y :: b => by
    rw [addL, List.length_cons, addL_len a b]
    simp only [List.length_cons]
    omega
theorem addL_twice : ∀ (a b : List UInt8), ∃ r, addL (addL a b) b = a ++ r
  | [], b => ⟨addL b b, by simp [addL]⟩
  | x :: a, [] => ⟨[], by simp [addL]⟩
  | x :: a, y :: b => by
    obtain ⟨r, hr⟩ := addL_twice a b
    refine ⟨r, ?_⟩
    rw [addL, addL, hr, UInt8.xor_assoc, UInt8.xor_self, UInt8.xor_zero]
    rfl
/-- A text so many times. -/
def mulB (A : B8) (c : UInt8) : UInt8 := ⟨gm A c.toBitVec⟩
def mulL (A : B8) (l : List UInt8) : List UInt8 := l.map (mulB A)
theorem mulB_add (A : B8) (x y : UInt8) : mulB A (x ^^^ y) = mulB A x ^^^ mulB A y := by
  unfold mulB
  apply UInt8.eq_of_toBitVec_eq
  simp only [UInt8.toBitVec_xor, gm_right]
theorem mulL_add (A : B8) : ∀ (a b : List UInt8), mulL A (addL a b) = addL (mulL A a) (mulL A b)
  | [], b => rfl
  | x :: a, [] => rfl
  | x :: a, y :: b => by
    have := mulL_add A a b
    unfold mulL at *
    rw [addL, List.map_cons, List.map_cons, List.map_cons, addL, mulB_add, this]
theorem mulL_one (a : List UInt8) : mulL 1#8 a = a := by
  unfold mulL
  rw [show mulB 1#8 = id from funext fun c => by unfold mulB; rw [one_gm]; rfl]
  simp
theorem mulL_len (A : B8) (a : List UInt8) : (mulL A a).length = a.length := by simp [mulL]
/-- The first bytes done, the others as they were. -/
def addTo (a b : List UInt8) (k : Nat) : List UInt8 := addL (a.take k) (b.take k) ++ a.drop k
theorem addTo_all {a b : List UInt8} (h : b.length ≤ a.length) : addTo a b b.length = addL a b := by
  have key : ∀ (a b : List UInt8), b.length ≤ a.length → addL (a.take b.length) b ++ a.drop b.length = addL a b := by
    intro a b
    induction b generalizing a with
    | nil => intro _; simp [addL_nil]
    | cons y b ih =>
      intro h
      cases a with
      | nil => simp at h
      | cons x a =>
        simp only [List.length_cons, List.take_succ_cons, List.drop_succ_cons, addL, List.cons_append]
        rw [ih a (by simpa using h)]
  unfold addTo
  rw [List.take_of_length_le (Nat.le_refl _)]
  exact key a b h
theorem addTo_len {a b : List UInt8} {k : Nat} (h : b.length ≤ a.length) : (addTo a b k).length = a.length := by
  unfold addTo
  rw [List.length_append, addL_len, List.length_drop, List.length_take, List.length_take]
  omega
theorem addL_snoc : ∀ (a b : List UInt8) (x y : UInt8), a.length = b.length → addL (a ++ [x]) (b ++ [y]) = addL a b ++ [x ^^^ y]
  | [], [], x, y, _ => rfl
  | [], _ :: _, _, _, h => by simp at h
  | _ :: _, [], _, _, h => by simp at h
  | c :: a, d :: b, x, y, h => by
    have := addL_snoc a b x y (by simpa using h)
    simp only [List.cons_append, addL, this]
theorem at_mid (P : List UInt8) (x y : UInt8) (R : List UInt8) (k : Nat) (h : P.length = k) : (P ++ x :: R).getD k 0 = x ∧ (P ++ x :: R).set k y = P ++ y :: R := by
  subst h
  refine ⟨by simp [List.getD], ?_⟩
  rw [List.set_append_right _ _ (Nat.le_refl _)]
  simp
theorem getD_at {l : List UInt8} {k : Nat} (h : k < l.length) : l[k] = l.getD k 0 := by simp [List.getD, h]
theorem addTo_step {a b : List UInt8} {k : Nat} (h : b.length ≤ a.length) (hk : k < b.length) :
    (addTo a b k).getD k 0 = a.getD k 0 ∧ (addTo a b k).set k (a.getD k 0 ^^^ b.getD k 0) = addTo a b (k + 1) := by
  have ha : k < a.length := by omega
  have hl : (addL (a.take k) (b.take k)).length = k := by rw [addL_len, List.length_take, List.length_take]; omega
  have e1 : a.drop k = a.getD k 0 :: a.drop (k + 1) := by rw [List.drop_eq_getElem_cons ha, getD_at ha]
  have e2 : a.take (k + 1) = a.take k ++ [a.getD k 0] := by rw [List.take_succ_eq_append_getElem ha, getD_at ha]
  have e3 : b.take (k + 1) = b.take k ++ [b.getD k 0] := by rw [List.take_succ_eq_append_getElem hk, getD_at hk]
  have m := at_mid (addL (a.take k) (b.take k)) (a.getD k 0) (a.getD k 0 ^^^ b.getD k 0) (a.drop (k + 1)) k hl
  unfold addTo
  rw [e1, e2, e3, addL_snoc _ _ _ _ (by rw [List.length_take, List.length_take]; omega), List.append_assoc]
  exact ⟨m.1, m.2⟩
theorem addTo_zero (a b : List UInt8) : addTo a b 0 = a := by simp [addTo, addL]
def mulTo (A : B8) (l : List UInt8) (k : Nat) : List UInt8 := mulL A (l.take k) ++ l.drop k
theorem mulTo_zero (A : B8) (l : List UInt8) : mulTo A l 0 = l := by simp [mulTo, mulL]
theorem mulTo_all (A : B8) (l : List UInt8) {k : Nat} (h : l.length ≤ k) : mulTo A l k = mulL A l := by
  unfold mulTo
  rw [List.take_of_length_le h, List.drop_of_length_le h, List.append_nil]
theorem mulTo_len (A : B8) (l : List UInt8) (k : Nat) : (mulTo A l k).length = l.length := by
  unfold mulTo
  rw [List.length_append, mulL_len, List.length_take, List.length_drop]
  omega
theorem mulTo_step (A : B8) {l : List UInt8} {k : Nat} (h : k < l.length) : (mulTo A l k).getD k 0 = l.getD k 0 ∧ (mulTo A l k).set k (mulB A (l.getD k 0)) = mulTo A l (k + 1) := by
  have e1 : l.drop k = l.getD k 0 :: l.drop (k + 1) := by rw [List.drop_eq_getElem_cons h, getD_at h]
  have e2 : l.take (k + 1) = l.take k ++ [l.getD k 0] := by rw [List.take_succ_eq_append_getElem h, getD_at h]
  have m := at_mid (mulL A (l.take k)) (l.getD k 0) (mulB A (l.getD k 0)) (l.drop (k + 1)) k (by rw [mulL_len, List.length_take]; omega)
  unfold mulTo
  rw [e1, e2]
  refine ⟨m.1, ?_⟩
  rw [m.2]
  simp [mulL]
end W
end Go.Proofs.YtoaifodmjkhiiaaDoor
/- FieldS: The walks of the models of the field of bytes: MulG, PowG, InvG. -/
namespace Go.Proofs.YtoaifodmjkhiiaaDoor
set_option maxRecDepth 100000
open Go.RowKit
open W (B8)
attribute [local irreducible] W.gm W.xt W.gp W.gi

theorem l05Mod_any (x : Int) (w : World) : Calls Tryd.prog 87 #[.int .i64 x] w fun e w' => e = .returned (.int .i64 ((g8 x).toNat : Int)) ∧ w' = w := by
  have hg := g8_nat x
  have ht : x.tmod 256 = x % 256 ∨ (x.tmod 256 = x % 256 - 256 ∧ 0 < x % 256) := by
    have := Int.tmod_eq_emod (a := x) (b := 256)
    split at this
    · left; omega
    · right; refine ⟨by omega, ?_⟩; omega
  by_cases h : x.tmod 256 < 0
  · have e : x.tmod 256 + 256 = ((g8 x).toNat : Int) := by omega
    have hw : IntKind.i64.wrap (x.tmod 256 + 256) = x.tmod 256 + 256 := IntWalk.i64_in _ ⟨by omega, by omega⟩
    have HE : Hid _ := e
    clear e hg ht
    go_enter Tryd.func87, Tryd.ntmps87
    go_wp2_with fail
    go_ret
    exact ⟨by rw [← HE.out]; rfl, rfl⟩
  · have e : x.tmod 256 = ((g8 x).toNat : Int) := by omega
    have HE : Hid _ := e
    clear e hg ht
    go_enter Tryd.func87, Tryd.ntmps87
    go_wp2_with fail
    go_ret
    exact ⟨by rw [← HE.out]; rfl, rfl⟩
/-- What a round of the product does. -/
theorem gm_round {P O A B : B8} (h : P = O ^^^ W.gm A B) : (B.getLsbD 0 = true → P = (O ^^^ A) ^^^ W.gm (W.xt A) (B >>> 1)) ∧ (B.getLsbD 0 = false → P = O ^^^ W.gm (W.xt A) (B >>> 1)) := by
  rw [W.gm_step A B] at h
  unfold W.gb at h
  refine ⟨fun hb => ?_, fun hb => ?_⟩
  · rw [hb] at h; rw [h, BitVec.xor_assoc]; rfl
  · rw [hb] at h; simpa using h
set_option maxHeartbeats 1000000 in
theorem specMulG (x y : Int) (w : World) : Calls Tryd.prog 86 #[.int .i64 x, .int .i64 y] w fun e w' => e = .returned (.int .i64 ((W.gm (g8 x) (g8 y)).toNat : Int)) ∧ w' = w := by
  obtain ⟨P, hP⟩ : ∃ P, P = W.gm (g8 x) (g8 y) := ⟨_, rfl⟩
  rw [← hP]
  go_enter Tryd.func86, Tryd.ntmps86
  go_wp2_with fail
  refine (l05Mod_any x _).mono ?_
  rintro e w1 ⟨rfl, rfl⟩
  go_wp2_with fail
  refine (l05Mod_any y _).mono ?_
  rintro e w2 ⟨rfl, rfl⟩
  have HP : Hid (P = 0#8 ^^^ W.gm (g8 x) (g8 y)) := by rw [BitVec.zero_xor]; exact hP
  clear hP
  generalize g8 x = A0 at *
  generalize g8 y = B0 at *
  go_wp2_with fail
  go_loop [0, 1, 5] (fun a b o => ∃ A B O : B8, a = .int .i64 (A.toNat : Int) ∧ b = .int .i64 (B.toNat : Int) ∧ o = .int .i64 (O.toNat : Int) ∧ P = O ^^^ W.gm A B) (fun _ b _ => (intOf b).toNat)
  case atStart => exact ⟨A0, B0, 0#8, rfl, rfl, rfl, HP.out⟩
  case round =>
    obtain ⟨A, B, O, rfl, rfl, rfl, hr⟩ := hrel
    have hA := b8_lt A
    have hO := b8_lt O
    have hBl := b8_lt B
    by_cases hb0 : 0 < B.toNat
    · have hb0' : (0 : Int) < (B.toNat : Int) := by omega
      have hhalf : Value.int .i64 ((B.toNat : Int) / 2) = .int .i64 ((B >>> 1).toNat : Int) := by rw [← W.half8]; congr 1
      have HH : Hid _ := hhalf
      clear hhalf
      have hlt : (B >>> 1).toNat < B.toNat := by rw [← W.half8]; omega
      have hodd := W.odd8 B
      obtain ⟨r1, r2⟩ := gm_round hr
      have hxo := i64_xor8 O A
      by_cases hbit : B.getLsbD 0 = true
      · have hm : ((B.toNat : Int) % 2 == 1) = true := by
          rw [hbit] at hodd
          have := of_decide_eq_true hodd.symm
          rw [beq_iff_eq]; omega
        have HR : Hid _ := r1 hbit
        clear r1 r2 hodd hbit hr
        by_cases hbig : 256 ≤ 2 * A.toNat
        · have hx : bits .xor .i64 (2 * (A.toNat : Int)) 285 = ((W.xt A).toNat : Int) := by
            have := i64_xor (2 * A.toNat) 285 (by omega) (by omega)
            rw [W.xt_big A hbig] at this
            rw [← this]; rfl
          have hbig' : (256 : Int) ≤ 2 * (A.toNat : Int) := by omega
          generalize W.xt A = A' at *
          generalize O ^^^ A = O' at *
          generalize B >>> 1 = B' at *
          go_wp2_with fail
          go_round
          case rel => exact ⟨A', B', O', rfl, HH.out, rfl, HR.out⟩
          case measure => simp [intOf]; omega
        · have hx : 2 * (A.toNat : Int) = ((W.xt A).toNat : Int) := by
            have := W.xt_small A (by omega)
            omega
          have hbig' : ¬ (256 : Int) ≤ 2 * (A.toNat : Int) := by omega
          have HX : Hid _ := hx
          clear hx
          generalize W.xt A = A' at *
          generalize O ^^^ A = O' at *
          generalize B >>> 1 = B' at *
          go_wp2_with fail
          go_round
          case rel => exact ⟨A', B', O', by rw [← HX.out], HH.out, rfl, HR.out⟩
          case measure => simp [intOf]; omega
      · have hbit' : B.getLsbD 0 = false := by simpa using hbit
        have hm : ((B.toNat : Int) % 2 == 1) = false := by
          rw [hbit'] at hodd
          have := of_decide_eq_false hodd.symm
          rw [beq_eq_false_iff_ne]; omega
        have HR : Hid _ := r2 hbit'
        clear r1 r2 hodd hbit hbit' hr
        by_cases hbig : 256 ≤ 2 * A.toNat
        · have hx : bits .xor .i64 (2 * (A.toNat : Int)) 285 = ((W.xt A).toNat : Int) := by
            have := i64_xor (2 * A.toNat) 285 (by omega) (by omega)
            rw [W.xt_big A hbig] at this
            rw [← this]; rfl
          have hbig' : (256 : Int) ≤ 2 * (A.toNat : Int) := by omega
          generalize W.xt A = A' at *
          generalize B >>> 1 = B' at *
          go_wp2_with fail
          go_round
          case rel => exact ⟨A', B', O, rfl, HH.out, rfl, HR.out⟩
          case measure => simp [intOf]; omega
        · have hx : 2 * (A.toNat : Int) = ((W.xt A).toNat : Int) := by
            have := W.xt_small A (by omega)
            omega
          have hbig' : ¬ (256 : Int) ≤ 2 * (A.toNat : Int) := by omega
          have HX : Hid _ := hx
          clear hx
          generalize W.xt A = A' at *
          generalize B >>> 1 = B' at *
          go_wp2_with fail
          go_round
          case rel => exact ⟨A', B', O, by rw [← HX.out], HH.out, rfl, HR.out⟩
          case measure => simp [intOf]; omega
    · have hb0' : ¬ (0 : Int) < (B.toNat : Int) := by omega
      have HR : Hid (P = O) := by
        have e := W.b8_zero (B := B) (by omega)
        rw [e, W.gm_zero, BitVec.xor_zero] at hr
        exact hr
      clear hr
      go_wp2_with fail
      go_ret
      exact ⟨by rw [HR.out]; rfl, rfl⟩
theorem specPowG_no (x n : Int) (w : World) (h : n < 0 ∨ 1000 < n) : Calls Tryd.prog 88 #[.int .i64 x, .int .i64 n] w fun e w' => e = .returned (.int .i64 0) ∧ w' = w := by
  have hd : (decide ((0 : Int) ≤ n) && decide (n ≤ 1000)) = false := by
    simp only [Bool.and_eq_false_iff, decide_eq_false_iff_not]; omega
  go_enter Tryd.func88, Tryd.ntmps88
  go_wp2_with fail
  refine (l01In_any _ _ _ _).mono ?_
  rw [hd]
  rintro e w' ⟨rfl, rfl⟩
  go_wp2_with fail
  go_ret
  exact ⟨rfl, rfl⟩
theorem gp_next (A : B8) (k : Nat) (x : Int) (h : A = g8 x) : W.gm (g8 ((W.gp A k).toNat : Int)) (g8 x) = W.gp A (k + 1) := by
  rw [g8_back, ← h, W.gp_succ]
set_option maxHeartbeats 1000000 in
theorem specPowG_yes (x : Int) (n : Nat) (w : World) (h : n ≤ 1000) : Calls Tryd.prog 88 #[.int .i64 x, .int .i64 n] w fun e w' => e = .returned (.int .i64 ((W.gp (g8 x) n).toNat : Int)) ∧ w' = w := by
  have h1 : decide ((0 : Int) ≤ (n : Int)) = true := by simp
  have h2 : decide ((n : Int) ≤ 1000) = true := by simp; omega
  go_enter Tryd.func88, Tryd.ntmps88
  go_wp2_with fail
  refine (l01In_any _ _ _ _).mono ?_
  rw [h1, h2]
  rintro e w' ⟨rfl, rfl⟩
  go_wp2_with fail
  go_loop [5, 6] (fun o i => ∃ k : Nat, i = .int .i64 k ∧ k ≤ n ∧ o = .int .i64 ((W.gp (g8 x) k).toNat : Int)) (fun _ i => n - (intOf i).toNat)
  case atStart => exact ⟨0, rfl, Nat.zero_le _, by rw [W.gp_0]; rfl⟩
  case round =>
    obtain ⟨k, rfl, hk, rfl⟩ := hrel
    by_cases hlt : k < n
    · have hlt' : (k : Int) < (n : Int) := by omega
      have hc := specMulG ((W.gp (g8 x) k).toNat : Int) x
      rw [gp_next (g8 x) k x rfl] at hc
      go_wp2_with fail
      refine (hc _).mono ?_
      rintro e w1 ⟨rfl, rfl⟩
      go_wp2_with fail
      go_round
      case rel => exact ⟨k + 1, by go_num, by omega, rfl⟩
      case measure => simp [intOf]; omega
    · have hlt' : ¬ (k : Int) < (n : Int) := by omega
      obtain rfl : k = n := by omega
      go_wp2_with fail
      go_ret
      exact ⟨rfl, rfl⟩
theorem specInvG (x : Int) (w : World) : Calls Tryd.prog 83 #[.int .i64 x] w fun e w' => e = .returned (.int .i64 ((W.gi (g8 x)).toNat : Int)) ∧ w' = w := by
  by_cases h0 : g8 x = 0#8
  · have hz : (((g8 x).toNat : Int) == 0) = true := by rw [h0]; rfl
    have HG : Hid (W.gi (g8 x) = 0#8) := by rw [h0]; exact W.gi_zero
    clear h0
    go_enter Tryd.func83, Tryd.ntmps83
    go_wp2_with fail
    refine (l05Mod_any x _).mono ?_
    rintro e w1 ⟨rfl, rfl⟩
    go_wp2_with fail
    go_ret
    exact ⟨by rw [HG.out]; rfl, rfl⟩
  · have hz : (((g8 x).toNat : Int) == 0) = false := by
      rw [beq_eq_false_iff_ne]
      intro e
      exact h0 (W.b8_zero (by omega))
    have hc := specPowG_yes ((g8 x).toNat : Int) 254
    rw [g8_back] at hc
    have HG : Hid (W.gi (g8 x) = W.gp (g8 x) 254) := by unfold W.gi; exact if_neg h0
    clear h0
    have HC : Hid _ := hc
    clear hc
    go_enter Tryd.func83, Tryd.ntmps83
    go_wp2_with fail
    refine (l05Mod_any x _).mono ?_
    rintro e w1 ⟨rfl, rfl⟩
    go_wp2_with fail
    refine (HC.out _ (by omega)).mono ?_
    rintro e w2 ⟨rfl, rfl⟩
    go_wp2_with fail
    go_ret
    exact ⟨by rw [HG.out]; rfl, rfl⟩
end Go.Proofs.YtoaifodmjkhiiaaDoor
/- MatM: Plain facts on matrices over the field of bytes: products, inverses, and what the steps of an elimination keep; nothing of the program is read here. -/
namespace Go.Proofs.YtoaifodmjkhiiaaDoor.W

/-- A sum of so many. -/
def xs : Nat → (Nat → B8) → B8
  | 0, _ => 0#8
  | n + 1, f => xs n f ^^^ f n
theorem xs_0 (f : Nat → B8) : xs 0 f = 0#8 := rfl
theorem xs_succ (n : Nat) (f : Nat → B8) : xs (n + 1) f = xs n f ^^^ f n := rfl
theorem xs_congr {n : Nat} {f g : Nat → B8} (h : ∀ k, k < n → f k = g k) : xs n f = xs n g := by
  induction n with
  | zero => rfl
  | succ n ih => rw [xs, xs, ih (fun k hk => h k (by omega)), h n (by omega)]
theorem xs_add (n : Nat) (f g : Nat → B8) : xs n (fun k => f k ^^^ g k) = xs n f ^^^ xs n g := by
  induction n with
  | zero => simp [xs]
  | succ n ih => rw [xs, xs, xs, ih, xor_swap]
theorem xs_zero (n : Nat) : xs n (fun _ => 0#8) = 0#8 := by
  induction n with
  | zero => rfl
  | succ n ih => rw [xs, ih]; rfl
theorem xs_left (a : B8) (n : Nat) (f : Nat → B8) : gm a (xs n f) = xs n (fun k => gm a (f k)) := by
  induction n with
  | zero => exact gm_zero a
  | succ n ih => rw [xs, xs, gm_right, ih]
theorem xs_right (a : B8) (n : Nat) (f : Nat → B8) : gm (xs n f) a = xs n (fun k => gm (f k) a) := by
  induction n with
  | zero => exact zero_gm a
  | succ n ih => rw [xs, xs, gm_left, ih]
theorem xs_swap (n m : Nat) (f : Nat → Nat → B8) : xs n (fun i => xs m (fun j => f i j)) = xs m (fun j => xs n (fun i => f i j)) := by
  induction n with
  | zero => exact (xs_zero m).symm
  | succ n ih => simp only [xs]; rw [ih, ← xs_add]
theorem xs_one {n k : Nat} {f : Nat → B8} (hk : k < n) (h : ∀ j, j < n → j ≠ k → f j = 0#8) : xs n f = f k := by
  induction n with
  | zero => omega
  | succ n ih =>
    rw [xs]
    by_cases e : k = n
    · subst e
      rw [xs_congr (g := fun _ => 0#8) (fun j hj => h j (by omega) (by omega)), xs_zero, BitVec.zero_xor]
    · rw [ih (by omega) (fun j hj hne => h j (by omega) hne), h n (by omega) (by omega), BitVec.xor_zero]
theorem xs_two {n k l : Nat} {f : Nat → B8} (hk : k < n) (hl : l < n) (hkl : k ≠ l) (h : ∀ j, j < n → j ≠ k → j ≠ l → f j = 0#8) : xs n f = f k ^^^ f l := by
  have e : ∀ j, f j = (if j = k then f k else 0#8) ^^^ (if j = k then 0#8 else f j) := fun j => by
    by_cases hj : j = k
    · rw [if_pos hj, if_pos hj, hj, BitVec.xor_zero]
    · rw [if_neg hj, if_neg hj, BitVec.zero_xor]
  rw [xs_congr (g := fun j => (if j = k then f k else 0#8) ^^^ (if j = k then 0#8 else f j)) (fun j _ => e j), xs_add]
  rw [xs_one (k := k) hk (fun j _ hj => if_neg hj), if_pos rfl]
  rw [xs_one (k := l) hl (fun j hj hjl => by
    by_cases hjk : j = k
    · rw [if_pos hjk]
    · rw [if_neg hjk]; exact h j hj hjk hjl), if_neg (Ne.symm hkl)]

abbrev Mx := Nat → Nat → B8
def mm (n : Nat) (A B : Mx) : Mx := fun i j => xs n fun k => gm (A i k) (B k j)
def one : Mx := fun i j => if i = j then 1#8 else 0#8
/-- Two matrices of so many rows and columns are the same. -/
def eqM (n m : Nat) (A B : Mx) : Prop := ∀ i, i < n → ∀ j, j < m → A i j = B i j
theorem eqM.refl (n m : Nat) (A : Mx) : eqM n m A A := fun _ _ _ _ => rfl
theorem eqM.symm {n m : Nat} {A B : Mx} (h : eqM n m A B) : eqM n m B A := fun i hi j hj => (h i hi j hj).symm
theorem eqM.trans {n m : Nat} {A B C : Mx} (h : eqM n m A B) (k : eqM n m B C) : eqM n m A C := fun i hi j hj => (h i hi j hj).trans (k i hi j hj)
theorem mm_assoc (n m : Nat) (A B C : Mx) : mm m (mm n A B) C = mm n A (mm m B C) := by
  funext i j
  unfold mm
  rw [xs_congr (n := m) (g := fun k => xs n fun l => gm (gm (A i l) (B l k)) (C k j)) (fun k _ => xs_right _ n _), xs_swap]
  refine xs_congr fun l _ => ?_
  rw [xs_left]
  exact xs_congr fun k _ => gm_assoc _ _ _
theorem mm_left {n r m : Nat} {A A' B : Mx} (h : eqM r n A A') : eqM r m (mm n A B) (mm n A' B) := fun i hi j _ => xs_congr fun k hk => by rw [h i hi k hk]
theorem mm_right {n r m : Nat} {A B B' : Mx} (h : eqM n m B B') : eqM r m (mm n A B) (mm n A B') := fun i _ j hj => xs_congr fun k hk => by rw [h k hk j hj]
theorem one_mm {n i : Nat} (hi : i < n) (B : Mx) (j : Nat) : mm n one B i j = B i j := by
  unfold mm one
  rw [xs_one (k := i) hi (fun k _ hk => by rw [if_neg (Ne.symm hk), zero_gm]), if_pos rfl, one_gm]
theorem mm_one {n j : Nat} (hj : j < n) (A : Mx) (i : Nat) : mm n A one i j = A i j := by
  unfold mm one
  rw [xs_one (k := j) hj (fun k _ hk => by rw [if_neg hk, gm_zero]), if_pos rfl, gm_one]
/-- Its product with another one is OneM: from the left. -/
def Linv (n : Nat) (B M : Mx) : Prop := eqM n n (mm n B M) one
theorem Linv.only {n : Nat} {B B' M : Mx} (h' : Linv n B' M) (r : Linv n M B) : eqM n n B' B := by
  have e1 : eqM n n (mm n B' (mm n M B)) (mm n B' one) := mm_right r
  rw [← mm_assoc] at e1
  have e2 : eqM n n (mm n (mm n B' M) B) (mm n one B) := mm_left h'
  exact fun i hi j hj => by
    have h1 := e1 i hi j hj
    have h2 := e2 i hi j hj
    rw [mm_one hj] at h1
    rw [one_mm hi] at h2
    rw [← h1, h2]
/-- Steps that can be taken back: what stands at their left and at their right is OneM. -/
structure Step (n : Nat) (P Q : Mx) : Prop where
  left : Linv n P Q
  right : Linv n Q P
theorem Step.start (n : Nat) : Step n one one := ⟨fun _ hi j _ => one_mm hi one j, fun _ hi j _ => one_mm hi one j⟩
theorem Step.next {n : Nat} {P Q E D : Mx} (h : Step n P Q) (k : Step n E D) : Step n (mm n E P) (mm n Q D) := by
  refine ⟨?_, ?_⟩
  · unfold Linv
    rw [mm_assoc, ← mm_assoc n n P Q D]
    have e1 : eqM n n (mm n (mm n P Q) D) (mm n one D) := mm_left h.left
    have e2 : eqM n n (mm n E (mm n (mm n P Q) D)) (mm n E (mm n one D)) := mm_right e1
    have e3 : eqM n n (mm n E (mm n one D)) (mm n E D) := mm_right (fun i hi j _ => one_mm hi D j)
    exact (e2.trans e3).trans k.left
  · unfold Linv
    rw [mm_assoc, ← mm_assoc n n D E P]
    have e1 : eqM n n (mm n (mm n D E) P) (mm n one P) := mm_left k.right
    have e2 : eqM n n (mm n Q (mm n (mm n D E) P)) (mm n Q (mm n one P)) := mm_right e1
    have e3 : eqM n n (mm n Q (mm n one P)) (mm n Q P) := mm_right (fun i hi j _ => one_mm hi P j)
    exact (e2.trans e3).trans h.right
/-- The end of an elimination: what was done to OneM is the inverse, from both sides. -/
theorem Step.fin {n : Nat} {P Q M : Mx} (h : Step n P Q) (hp : Linv n P M) : Linv n M P := by
  have e1 : eqM n n (mm n Q (mm n P M)) (mm n Q one) := mm_right hp
  have e2 : eqM n n (mm n (mm n Q P) M) (mm n one M) := mm_left h.right
  rw [mm_assoc] at e2
  have eM : eqM n n M Q := fun i hi j hj => by
    have h1 := e1 i hi j hj
    have h2 := e2 i hi j hj
    rw [mm_one hj] at h1
    rw [one_mm hi] at h2
    rw [← h2, h1]
  exact (mm_left eM).trans h.right
/-- Rows p and c in each other's place. -/
def swapE (p c : Nat) : Mx := fun i j => if i = p then (if j = c then 1#8 else 0#8) else if i = c then (if j = p then 1#8 else 0#8) else one i j
def swapR (p c : Nat) (A : Mx) : Mx := fun i j => if i = p then A c j else if i = c then A p j else A i j
theorem swap_mm {n p c : Nat} (hp : p < n) (hc : c < n) (A : Mx) : eqM n n (mm n (swapE p c) A) (swapR p c A) := by
  intro i hi j _
  unfold mm swapE swapR
  by_cases h1 : i = p
  · simp only [if_pos h1]
    rw [xs_one (k := c) hc (fun k _ hk => by rw [if_neg hk, zero_gm]), if_pos rfl, one_gm]
  · simp only [if_neg h1]
    by_cases h2 : i = c
    · simp only [if_pos h2]
      rw [xs_one (k := p) hp (fun k _ hk => by rw [if_neg hk, zero_gm]), if_pos rfl, one_gm]
    · simp only [if_neg h2]
      exact one_mm hi A j
theorem swap_twice (p c : Nat) (A : Mx) : swapR p c (swapR p c A) = A := by
  funext i j
  unfold swapR
  by_cases h1 : i = p
  · subst h1
    rw [if_pos rfl]
    by_cases h2 : c = i
    · subst h2; rw [if_pos rfl]
    · rw [if_neg h2, if_pos rfl]
  · rw [if_neg h1]
    by_cases h2 : i = c
    · subst h2; rw [if_pos rfl, if_pos rfl]
    · rw [if_neg h2, if_neg h1, if_neg h2]
/-- Row c so many times. -/
def timesE (c : Nat) (s : B8) : Mx := fun i j => if i = c then (if j = c then s else 0#8) else one i j
def timesR (c : Nat) (s : B8) (A : Mx) : Mx := fun i j => if i = c then gm s (A c j) else A i j
theorem times_mm {n c : Nat} (hc : c < n) (s : B8) (A : Mx) : eqM n n (mm n (timesE c s) A) (timesR c s A) := by
  intro i hi j _
  unfold mm timesE timesR
  by_cases h1 : i = c
  · simp only [if_pos h1]
    rw [xs_one (k := c) hc (fun k _ hk => by rw [if_neg hk, zero_gm]), if_pos rfl]
  · simp only [if_neg h1]
    exact one_mm hi A j
/-- Row c, so many times, to row r. -/
def plusE (r c : Nat) (t : B8) : Mx := fun i j => if i = r then (if j = c then t else one i j) else one i j
def plusR (r c : Nat) (t : B8) (A : Mx) : Mx := fun i j => if i = r then A r j ^^^ gm t (A c j) else A i j
theorem plus_mm {n r c : Nat} (hr : r < n) (hc : c < n) (hrc : r ≠ c) (t : B8) (A : Mx) : eqM n n (mm n (plusE r c t) A) (plusR r c t A) := by
  intro i hi j _
  unfold mm plusE plusR
  by_cases h1 : i = r
  · subst h1
    simp only [if_true]
    rw [xs_two (k := i) (l := c) hr hc hrc (fun k _ hk hkc => by rw [if_neg hkc]; unfold one; rw [if_neg (Ne.symm hk), zero_gm]), if_neg hrc, if_pos rfl]
    unfold one
    rw [if_pos rfl, one_gm]
  · simp only [if_neg h1]
    exact one_mm hi A j
theorem step_swap {n p c : Nat} (hp : p < n) (hc : c < n) : Step n (swapE p c) (swapE p c) := by
  have e : Linv n (swapE p c) (swapE p c) := by
    have h1 : eqM n n (swapE p c) (swapR p c one) := fun i hi j hj => by
      have := swap_mm hp hc one i hi j hj
      rwa [mm_one hj] at this
    refine (swap_mm hp hc _).trans ?_
    intro i hi j hj
    have h2 : swapR p c (swapE p c) i j = swapR p c (swapR p c one) i j := by
      unfold swapR
      by_cases a1 : i = p
      · rw [if_pos a1, if_pos a1]; exact h1 c hc j hj
      · rw [if_neg a1, if_neg a1]
        by_cases a2 : i = c
        · rw [if_pos a2, if_pos a2]; exact h1 p hp j hj
        · rw [if_neg a2, if_neg a2]; exact h1 i hi j hj
    rw [h2, swap_twice]
  exact ⟨e, e⟩
theorem times_two {c : Nat} {s t : B8} (h : gm s t = 1#8) (A : Mx) : timesR c s (timesR c t A) = A := by
  funext i j
  unfold timesR
  by_cases h1 : i = c
  · subst h1; rw [if_pos rfl, if_pos rfl, ← gm_assoc, h, one_gm]
  · rw [if_neg h1, if_neg h1]
theorem linv_times {n c : Nat} (hc : c < n) {s t : B8} (h : gm s t = 1#8) : Linv n (timesE c s) (timesE c t) := by
  have h1 : eqM n n (timesE c t) (timesR c t one) := fun i hi j hj => by
    have := times_mm hc t one i hi j hj
    rwa [mm_one hj] at this
  refine (times_mm hc s _).trans ?_
  intro i hi j hj
  have h2 : timesR c s (timesE c t) i j = timesR c s (timesR c t one) i j := by
    show (if i = c then gm s (timesE c t c j) else timesE c t i j) = (if i = c then gm s (timesR c t one c j) else timesR c t one i j)
    rw [h1 c hc j hj, h1 i hi j hj]
  rw [h2, times_two h]
theorem step_times {n c : Nat} (hc : c < n) {s t : B8} (h : gm s t = 1#8) : Step n (timesE c s) (timesE c t) := ⟨linv_times hc h, linv_times hc (by rw [gm_comm]; exact h)⟩
theorem plus_twice {r c : Nat} (hrc : r ≠ c) (t : B8) (A : Mx) : plusR r c t (plusR r c t A) = A := by
  funext i j
  unfold plusR
  by_cases h1 : i = r
  · subst h1; rw [if_pos rfl, if_pos rfl, if_neg (Ne.symm hrc), BitVec.xor_assoc, BitVec.xor_self, BitVec.xor_zero]
  · rw [if_neg h1, if_neg h1]
theorem step_plus {n r c : Nat} (hr : r < n) (hc : c < n) (hrc : r ≠ c) (t : B8) : Step n (plusE r c t) (plusE r c t) := by
  have e : Linv n (plusE r c t) (plusE r c t) := by
    have h1 : eqM n n (plusE r c t) (plusR r c t one) := fun i hi j hj => by
      have := plus_mm hr hc hrc t one i hi j hj
      rwa [mm_one hj] at this
    refine (plus_mm hr hc hrc t _).trans ?_
    intro i hi j hj
    have h2 : plusR r c t (plusE r c t) i j = plusR r c t (plusR r c t one) i j := by
      show (if i = r then plusE r c t r j ^^^ gm t (plusE r c t c j) else plusE r c t i j) = (if i = r then plusR r c t one r j ^^^ gm t (plusR r c t one c j) else plusR r c t one i j)
      rw [h1 r hr j hj, h1 c hc j hj, h1 i hi j hj]
    rw [h2, plus_twice hrc]
  exact ⟨e, e⟩
/-- Where an elimination stands: what was done to OneM makes M to A, and can be taken back. -/
def Elim (n : Nat) (M A P : Mx) : Prop := (∃ Q, Step n P Q) ∧ eqM n n (mm n P M) A
theorem Elim.start (n : Nat) (M : Mx) : Elim n M M one := ⟨⟨one, Step.start n⟩, fun _ hi j _ => one_mm hi M j⟩
theorem Elim.congr {n : Nat} {M A A' P P' : Mx} (h : Elim n M A P) (hA : eqM n n A A') (hP : eqM n n P P') : Elim n M A' P' := by
  obtain ⟨⟨Q, s⟩, e⟩ := h
  refine ⟨⟨Q, ⟨(mm_left hP.symm).trans s.left, (mm_right hP.symm).trans s.right⟩⟩, ((mm_left hP.symm).trans e).trans hA⟩
theorem Elim.by {n : Nat} {M A P E D : Mx} (h : Elim n M A P) (k : Step n E D) : Elim n M (mm n E A) (mm n E P) := by
  obtain ⟨⟨Q, s⟩, e⟩ := h
  refine ⟨⟨_, s.next k⟩, ?_⟩
  rw [mm_assoc]
  exact mm_right e
theorem Elim.swap {n : Nat} {M A P : Mx} (h : Elim n M A P) {p c : Nat} (hp : p < n) (hc : c < n) : Elim n M (swapR p c A) (swapR p c P) := (h.by (step_swap hp hc)).congr (swap_mm hp hc A) (swap_mm hp hc P)
theorem Elim.times {n : Nat} {M A P : Mx} (h : Elim n M A P) {c : Nat} {s t : B8} (hc : c < n) (hs : gm s t = 1#8) : Elim n M (timesR c s A) (timesR c s P) := (h.by (step_times hc hs)).congr (times_mm hc s A) (times_mm hc s P)
theorem Elim.plus {n : Nat} {M A P : Mx} (h : Elim n M A P) {r c : Nat} (hr : r < n) (hc : c < n) (hrc : r ≠ c) (t : B8) : Elim n M (plusR r c t A) (plusR r c t P) := (h.by (step_plus hr hc hrc t)).congr (plus_mm hr hc hrc t A) (plus_mm hr hc hrc t P)
theorem Elim.done {n : Nat} {M A P : Mx} (h : Elim n M A P) (hA : eqM n n A one) : Linv n P M ∧ Linv n M P := by
  obtain ⟨⟨Q, s⟩, e⟩ := h
  have h1 : Linv n P M := e.trans hA
  exact ⟨h1, s.fin h1⟩
/-- The first columns are those of OneM. -/
def Cols (n c : Nat) (A : Mx) : Prop := ∀ i, i < n → ∀ j, j < c → A i j = one i j
/-- No row from c on has a number in column c: there is no inverse. -/
theorem Elim.none {n c : Nat} {M A P : Mx} (h : Elim n M A P) (hc : c < n) (hcol : Cols n c A) (hz : ∀ i, c ≤ i → i < n → A i c = 0#8) (B : Mx) : ¬ Linv n B M := by
  intro hB
  obtain ⟨⟨Q, s⟩, e⟩ := h
  let v : Mx := fun k _ => if k < c then A k c else if k = c then 1#8 else 0#8
  have hv : ∀ i, i < n → mm n A v i 0 = 0#8 := fun i hi => by
    have hsum : ∀ k, k < n → gm (A i k) (v k 0) = (if k < c then gm (A i k) (A k c) else 0#8) ^^^ (if k = c then A i c else 0#8) := fun k hk => by
      show gm (A i k) (if k < c then A k c else if k = c then 1#8 else 0#8) = _
      by_cases h1 : k < c
      · rw [if_pos h1, if_pos h1, if_neg (by omega), BitVec.xor_zero]
      · rw [if_neg h1, if_neg h1, BitVec.zero_xor]
        by_cases h2 : k = c
        · rw [if_pos h2, if_pos h2, gm_one, h2]
        · rw [if_neg h2, if_neg h2, gm_zero]
    unfold mm
    rw [xs_congr hsum, xs_add, xs_one (k := c) (f := fun k => if k = c then A i c else 0#8) hc (fun k _ hk => if_neg hk), if_pos rfl]
    by_cases hic : i < c
    · rw [xs_one (k := i) hi (fun k hk hki => by
        by_cases h1 : k < c
        · rw [if_pos h1, hcol i hi k h1]; unfold one; rw [if_neg (Ne.symm hki), zero_gm]
        · rw [if_neg h1]), if_pos hic, hcol i hi i hic]
      unfold one
      rw [if_pos rfl, one_gm, BitVec.xor_self]
    · rw [xs_congr (g := fun _ => 0#8) (fun k hk => by
        by_cases h1 : k < c
        · rw [if_pos h1, hcol i hi k h1]; unfold one; rw [if_neg (by omega), zero_gm]
        · rw [if_neg h1]), xs_zero, hz i (by omega) hi]
      rfl
  have hPM : ∀ i, i < n → mm n (mm n P M) v i 0 = 0#8 := fun i hi => by
    rw [← hv i hi]
    exact xs_congr fun k hk => by rw [e i hi k hk]
  have hMv : ∀ i, i < n → mm n M v i 0 = 0#8 := fun i hi => by
    have e1 : mm n (mm n Q P) (mm n M v) i 0 = mm n one (mm n M v) i 0 := xs_congr fun k hk => by rw [s.right i hi k hk]
    rw [one_mm hi] at e1
    rw [← e1, mm_assoc]
    have e2 : mm n Q (mm n P (mm n M v)) i 0 = xs n fun _ => 0#8 := xs_congr fun k hk => by
      have := hPM k hk
      rw [mm_assoc] at this
      rw [this, gm_zero]
    rw [e2, xs_zero]
  have hvc : v c 0 = 0#8 := by
    have e1 : mm n (mm n B M) v c 0 = mm n one v c 0 := xs_congr fun k hk => by rw [hB c hc k hk]
    rw [one_mm hc] at e1
    rw [← e1, mm_assoc]
    have e2 : mm n B (mm n M v) c 0 = xs n fun _ => 0#8 := xs_congr fun k hk => by rw [hMv k hk, gm_zero]
    rw [e2, xs_zero]
  have : v c 0 = 1#8 := by show (if c < c then _ else if c = c then 1#8 else 0#8) = 1#8; rw [if_neg (by omega), if_pos rfl]
  rw [this] at hvc
  exact absurd hvc (by decide)
/-- Two rows that are the same: there is no inverse from the right. -/
theorem twin_none {n p q : Nat} {M B : Mx} (hp : p < n) (hq : q < n) (hpq : p ≠ q) (h : ∀ j, j < n → M p j = M q j) : ¬ Linv n M B := by
  intro hb
  have e1 := hb p hp p hp
  have e2 := hb q hq p hp
  have : mm n M B p p = mm n M B q p := xs_congr fun k hk => by rw [h k hk]
  rw [this, e2] at e1
  unfold one at e1
  rw [if_neg (Ne.symm hpq), if_pos rfl] at e1
  exact absurd e1 (by decide)
end Go.Proofs.YtoaifodmjkhiiaaDoor.W
/- MatC: The walk of the model's MulM. -/
namespace Go.Proofs.YtoaifodmjkhiiaaDoor
set_option maxRecDepth 100000
open Go.RowKit
open W (B8 Mx)
attribute [local go_sem ↓] Go.wp_at_zero Go.wp_at_succ
attribute [local irreducible] W.gm W.xs

/-- Rows of numbers as a matrix over the field. -/
def mx (X : List (List Int)) : Mx := fun i j => g8 ((X.getD i []).getD j 0)
def colsOf (X : List (List Int)) : Nat := (X.headD []).length
/-- Rows of numbers, out of a matrix over the field. -/
def rowsX (n m : Nat) (A : Mx) : List (List Int) := (List.range n).map fun i => (List.range m).map fun j => ((A i j).toNat : Int)
/-- The product, as it is answered. -/
def mulX (X Y : List (List Int)) : List (List Int) := if matOk X = true ∧ matOk Y = true ∧ colsOf X = Y.length then rowsX X.length (colsOf Y) (W.mm Y.length (mx X) (mx Y)) else []
theorem matOk_iff {X : List (List Int)} (h : matOk X = true) : (1 ≤ X.length ∧ X.length ≤ 8) ∧ (1 ≤ colsOf X ∧ colsOf X ≤ 8) ∧ ∀ x ∈ X, x.length = colsOf X ∧ ∀ y ∈ x, 0 ≤ y ∧ y ≤ 255 := by
  unfold matOk at h
  simp only [Bool.and_eq_true, decide_eq_true_eq, List.all_eq_true] at h
  obtain ⟨h1, h2, h3⟩ := h
  have each : ∀ x ∈ X, x.length = colsOf X ∧ (1 ≤ x.length ∧ x.length ≤ 8) ∧ ∀ y ∈ x, 0 ≤ y ∧ y ≤ 255 := fun x hx => by
    have := h1 x hx
    unfold rowOk numOk at this
    simp only [Bool.and_eq_true, decide_eq_true_eq, List.all_eq_true] at this
    obtain ⟨⟨q1, q2, q3⟩, q4⟩ := this
    exact ⟨q1, ⟨by omega, by omega⟩, q4⟩
  refine ⟨⟨by omega, by omega⟩, ?_, fun x hx => ⟨(each x hx).1, (each x hx).2.2⟩⟩
  cases X with
  | nil => simp at h2
  | cons x X => have := each x (by simp); have e : colsOf (x :: X) = x.length := rfl; omega
/-- A row of a product that is under way: the first k numbers are there, of the next one a sum of j. -/
def partRow (m cols : Nat) (A B : Mx) (i k j : Nat) : List Int := (List.range cols).map fun c => if c < k then ((W.mm m A B i c).toNat : Int) else if c = k then ((W.xs j fun l => W.gm (A i l) (B l k)).toNat : Int) else 0
theorem partRow_len (m cols : Nat) (A B : Mx) (i k j : Nat) : (partRow m cols A B i k j).length = cols := by simp [partRow]
theorem partRow_start (m cols : Nat) (A B : Mx) (i : Nat) : List.replicate cols (0 : Int) = partRow m cols A B i 0 0 := by
  apply List.ext_getElem
  · simp [partRow]
  · intro c h1 h2
    simp only [partRow, List.getElem_map, List.getElem_range, List.getElem_replicate]
    rw [if_neg (by omega)]
    split
    · rw [W.xs_0]; rfl
    · rfl
theorem partRow_next (m cols : Nat) (A B : Mx) (i k : Nat) : partRow m cols A B i k m = partRow m cols A B i (k + 1) 0 := by
  unfold partRow
  apply List.map_congr_left
  intro c _
  by_cases h1 : c < k
  · rw [if_pos h1, if_pos (by omega)]
  · rw [if_neg h1]
    by_cases h2 : c = k
    · subst h2; rw [if_pos rfl, if_pos (by omega)]; rfl
    · rw [if_neg h2, if_neg (by omega)]
      split
      · rw [W.xs_0]; rfl
      · rfl
theorem partRow_end (m cols : Nat) (A B : Mx) (i : Nat) : partRow m cols A B i cols 0 = (List.range cols).map fun j => ((W.mm m A B i j).toNat : Int) := by
  unfold partRow
  apply List.map_congr_left
  intro c hc
  rw [if_pos (List.mem_range.1 hc)]
theorem partRow_get {m cols : Nat} {A B : Mx} {i k j : Nat} (h : k < cols) : (partRow m cols A B i k j).getD k 0 = ((W.xs j fun l => W.gm (A i l) (B l k)).toNat : Int) := by
  unfold partRow
  rw [List.getD_eq_getElem?_getD, List.getElem?_map, List.getElem?_range h]
  simp
theorem partRow_at {m cols : Nat} {A B : Mx} {i k j c : Nat} (h : c < (partRow m cols A B i k j).length) : (partRow m cols A B i k j)[c] = if c < k then ((W.mm m A B i c).toNat : Int) else if c = k then ((W.xs j fun l => W.gm (A i l) (B l k)).toNat : Int) else 0 := by
  simp only [partRow, List.getElem_map, List.getElem_range]
theorem partRow_set {m cols : Nat} {A B : Mx} {i k j : Nat} : (partRow m cols A B i k j).set k (((W.xs j fun l => W.gm (A i l) (B l k)) ^^^ W.gm (A i j) (B j k)).toNat : Int) = partRow m cols A B i k (j + 1) := by
  apply List.ext_getElem
  · simp [partRow]
  · intro c h1 h2
    rw [List.getElem_set, partRow_at, partRow_at]
    by_cases e : k = c
    · subst e
      rw [if_pos rfl, if_neg (by omega), if_pos rfl, W.xs_succ]
    · rw [if_neg e]
      by_cases e2 : c < k
      · rw [if_pos e2, if_pos e2]
      · rw [if_neg e2, if_neg e2, if_neg (Ne.symm e), if_neg (Ne.symm e)]
theorem mulX_no {X Y : List (List Int)} (h : ¬ (matOk X = true ∧ matOk Y = true ∧ colsOf X = Y.length)) : mulX X Y = [] := if_neg h
theorem BI.drew {w wr : World} {v : Value} {ts : List SR} (h : BI w wr v ts) : BI w wr.drew v ts := h.below (Below.drew (Below.refl _ _))
theorem WCells.drew {w : World} {g : Nat} {L : List Value} (h : WCells w g L) : WCells w.drew g L := h.below (Below.drew (Below.refl w.heap.size w)) h.1
/-- What the walk of a product wants of one of its rows. -/
structure RowAt2 (w : World) (cols : Nat) (A : Mx) (i b off : Nat) (loc : Option Addr) (cp : Nat) (row : List Int) : Prop where
  cell : w.cell? ⟨b, off + i, none⟩ = some (.slice loc cols cp)
  lt : b < w.heap.size
  len : row.length = cols
  crow : CRow w loc (ics row)
  num : ∀ j, j < cols → A i j = g8 (row.getD j 0)
theorem RowAt2.below {w w' : World} {cols : Nat} {A : Mx} {i b off : Nat} {loc : Option Addr} {cp : Nat} {row : List Int} (h : RowAt2 w cols A i b off loc cp row) (hb : Below w.heap.size w w') : RowAt2 w' cols A i b off loc cp row :=
  ⟨(hb.cell (p := ⟨b, off + i, none⟩) h.lt).trans h.cell, Nat.lt_of_lt_of_le h.lt hb.size, h.len, h.crow.stays hb, h.num⟩
/-- Its number in a column, where it lies. -/
theorem RowAt2.at {w : World} {cols : Nat} {A : Mx} {i b off : Nat} {loc : Option Addr} {cp : Nat} {row : List Int} (h : RowAt2 w cols A i b off loc cp row) {j : Nat} (hj : j < cols) : ∃ b' o' x, loc = some ⟨b', o', none⟩ ∧ b' < w.heap.size ∧ w.cell? ⟨b', o' + j, none⟩ = some (.int .i64 x) ∧ A i j = g8 x := by
  obtain ⟨b', o', e, hb, hc⟩ := crow_int h.crow (by rw [h.len]; omega)
  exact ⟨b', o', row.getD j 0, e, hb, hc j (by rw [h.len]; exact hj), h.num j hj⟩
/-- A matrix that lies in memory, row by row. -/
def Lies (w : World) (n cols : Nat) (A : Mx) (b off : Nat) : Prop := ∀ i, i < n → ∃ loc cp row, RowAt2 w cols A i b off loc cp row
theorem Lies.below {w w' : World} {n cols : Nat} {A : Mx} {b off : Nat} (h : Lies w n cols A b off) (hb : Below w.heap.size w w') : Lies w' n cols A b off := fun i hi => by
  obtain ⟨loc, cp, row, hr⟩ := h i hi
  exact ⟨loc, cp, row, hr.below hb⟩
theorem row_at {w : World} {a : Option Addr} {ss : List SR} {lo hi : Nat} {X : List (List Int)} (h : MR w a ss lo hi) (hX : rws ss = X) (hok : matOk X = true) :
    ∃ b off, a = some ⟨b, off, none⟩ ∧ Lies w X.length (colsOf X) (mx X) b off := by
  have hl : ss.length = X.length := by rw [← hX, rws_len]
  obtain ⟨h1, _, h3⟩ := matOk_iff hok
  obtain ⟨b, off, e, hb, hc⟩ := h.at (by omega)
  refine ⟨b, off, e, fun i hi => ?_⟩
  have his : i < ss.length := by omega
  have hmem : ss[i].row ∈ X := by rw [← hX]; exact List.mem_map.2 ⟨ss[i], List.getElem_mem his, rfl⟩
  have hlen := (h3 _ hmem).1
  have hget : X.getD i [] = ss[i].row := by rw [← hX, List.getD_eq_getElem?_getD]; simp [rws, his]
  refine ⟨ss[i].loc, ss[i].cap, ss[i].row, ⟨?_, hb, hlen, (h.2 _ (List.getElem_mem his)).crow, fun j _ => by unfold mx; rw [hget]⟩⟩
  have := hc i his
  unfold srv at this
  rw [hlen] at this
  exact this
end Go.Proofs.YtoaifodmjkhiiaaDoor
/- MatE: The walks of the model's two steps on rows: a row so many times, and a row from which so many times another is taken. -/
namespace Go.Proofs.YtoaifodmjkhiiaaDoor
set_option maxRecDepth 100000
open Go.RowKit
open W (B8 Mx)
attribute [local go_sem ↓] Go.wp_at_zero Go.wp_at_succ
attribute [local irreducible] W.gm W.xs W.mm

/-- A row so many times, and two rows summed so. -/
def timesL (t : B8) (row : List Int) : List Int := row.map fun x => ((W.gm t (g8 x)).toNat : Int)
def plusL (t : B8) (dst src : List Int) : List Int := (List.range dst.length).map fun k => ((g8 (dst.getD k 0) ^^^ W.gm t (g8 (src.getD k 0))).toNat : Int)
theorem timesL_len (t : B8) (row : List Int) : (timesL t row).length = row.length := by simp [timesL]
theorem plusL_len (t : B8) (dst src : List Int) : (plusL t dst src).length = dst.length := by simp [plusL]
/-- A new row. -/
def RowPost (row : List Int) (w : World) (e : Ending) (w' : World) : Prop := ∃ g cap, e = .returned (.slice (some ⟨g, 0, none⟩) row.length cap) ∧ w.heap.size ≤ g ∧ WCells w' g (ics row) ∧ row.length ≤ cap ∧ Below w.heap.size w w'
theorem ownsRow_one {W : World} {base : Nat} {e : TypeId} {size : Nat} {v : Value} {k : Nat} {xs : List Value} (h : W.ownsRow base e size v (k + 1) xs) : ∃ g cap, v = .slice (some ⟨g, 0, none⟩) (k + 1) cap := by
  rcases h.2 with ⟨_, h0⟩ | ⟨g, cap, _, rfl, _⟩
  · omega
  · exact ⟨g, cap, rfl⟩
theorem row_post {row : List Int} {w w' : World} {v : Value} {n : Nat} (hp : 0 < n) (hn : row.length = n) (hown : w'.ownsRow w.heap.size 3 1 v n (ics row)) (hb : Below w.heap.size w w') : RowPost row w (.returned v) w' := by
  obtain ⟨m, rfl⟩ : ∃ m, n = m + 1 := ⟨n - 1, by omega⟩
  obtain ⟨g, cap, rfl⟩ := ownsRow_one hown
  have hown2 := hown
  obtain ⟨_, ⟨h0, _⟩ | ⟨g', cap', cur, he, _, _, hc, _⟩⟩ := hown
  · cases h0
  · have e1 : cap' = cap := by simp at he; exact he.2.symm
    exact ⟨g, cap, by rw [hn], (hown2.lt g rfl).1, own_wcells hown2, by omega, hb⟩
end Go.Proofs.YtoaifodmjkhiiaaDoor
/- MatF: The walk of the model's step on two rows: so many times a row is taken from another one. -/
namespace Go.Proofs.YtoaifodmjkhiiaaDoor
set_option maxRecDepth 100000
open Go.RowKit
open W (B8 Mx)
attribute [local go_sem ↓] Go.wp_at_zero Go.wp_at_succ
attribute [local irreducible] W.gm W.xs W.mm

theorem plusL_step (t : B8) (dst src : List Int) {k : Nat} (h : k < dst.length) : (plusL t dst src).take (k + 1) = (plusL t dst src).take k ++ [((g8 (dst.getD k 0) ^^^ W.gm t (g8 (src.getD k 0))).toNat : Int)] := by
  have hk : k < (plusL t dst src).length := by rw [plusL_len]; exact h
  rw [List.take_succ_eq_append_getElem hk]
  congr 2
  simp [plusL]
theorem g8_self {x : Int} (h0 : 0 ≤ x) (h1 : x ≤ 255) : ((g8 x).toNat : Int) = x := by rw [g8_nat]; omega
theorem kept_app {w w' : World} {o : Obj} {q : Option Nat} {a : Addr} {v : Value} (hg : (w.drew.alloc o).grownBy w' q) (hl : a.block < w.heap.size) (hq : q ≠ some a.block) (h : w.cell? a = some v) : w'.cell? a = some v := by
  have h1 : (w.drew.alloc o).cell? a = some v := ((((Below.refl w.heap.size w).drew).alloc (Nat.le_refl _) o).cell (p := a) hl).trans h
  have hl2 : a.block < (w.drew.alloc o).heap.size := by simp; omega
  exact (World.cell?_of_block (a := a) (hg.block a.block hl2 (fun e => hq e.symm))).trans h1
end Go.Proofs.YtoaifodmjkhiiaaDoor
