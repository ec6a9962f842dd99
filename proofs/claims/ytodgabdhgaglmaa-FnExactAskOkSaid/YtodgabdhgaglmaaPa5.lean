/- Texts of ours, laid one behind the other: NestB, StrW, OffA, GuardA, OffB, PaK, LawPth, Draw, DrawB, DrawP, DrPk, DrPth. -/
import Derived.Test.YtodgabdhgaglmaaPa4
import Derived.Test.YtodgabdhgaglmaaRows
import Derived.Maps.AppendAt
import Derived.ArgAppend
import Derived.Test.YtodgabdhgaglmaaShelf
import Derived.PlainAid
import Derived.Deep.QuietTactic
import Derived.BigQuiet
import Derived.Deep.RegionHeld3
import Derived.Deep.DrawnRows
import Derived.OwnWalk
import Derived.OpenShut
/- NestB: Rows of rows of numbers: the laws' own copies, sizes, comparisons and marks. -/
namespace Go.Proofs.Ytodgabdhgaglmaa
set_option maxRecDepth 100000
open Go.RowKit
attribute [local go_sem ↓] Go.wp_at_zero Go.wp_at_succ

/-- Where the copy of a row of rows stands. -/
structure TI (w wr : World) (ss : List SR) (ts : List SR) : Prop where
  rweq : rws ts = rws (ss.take ts.length)
  out : WCells wr w.heap.size (svs ts ++ List.replicate (ss.length - ts.length) (.slice none 0 0))
  rows : ∀ s ∈ ts, ∃ b, s.loc = some ⟨b, 0, none⟩ ∧ w.heap.size ≤ b ∧ b < wr.heap.size ∧ b ≠ w.heap.size ∧ WCells wr b (ics s.row) ∧ s.row.length ≤ s.cap
  apart : (ts.map SR.loc).Nodup
  bel : Below w.heap.size w wr
theorem set_mid (A B : List Value) (x y : Value) (k : Nat) (h : A.length = k) : (A ++ x :: B).set k y = A ++ y :: B := by
  subst h
  rw [List.set_append_right _ _ (Nat.le_refl _)]
  simp
theorem TI.next {w wr w1 : World} {ss ts : List SR} {g1 : Nat} {row : List Int} {n : Nat} (h : TI w wr ss ts) (hk : ts.length < ss.length) (hrow : (ss[ts.length]).row = row) (hn : n = row.length) (hw : w.heap.size < wr.heap.size)
    (hg1 : wr.heap.size ≤ g1) (hc : WCells w1 g1 (ics row)) (hb : Below wr.heap.size wr w1) : TI w (w1.setCell ⟨w.heap.size, ts.length, none⟩ (.slice (some ⟨g1, 0, none⟩) n n)) ss (ts ++ [SR.mk (some ⟨g1, 0, none⟩) row row.length]) := by
  subst hn
  have hne : g1 ≠ w.heap.size := by omega
  have hsz : (w1.setCell ⟨w.heap.size, ts.length, none⟩ (.slice (some ⟨g1, 0, none⟩) row.length row.length)).heap.size = w1.heap.size := by simp [World.setCell]
  have hgs : w1.grownBy (w1.setCell ⟨w.heap.size, ts.length, none⟩ (.slice (some ⟨g1, 0, none⟩) row.length row.length)) (some w.heap.size) := gb_set' _ _ _ _
  refine ⟨?_, ?_, ?_, ?_, ?_⟩
  · rw [rws_snoc, h.rweq, List.length_append, List.length_singleton, List.take_succ_eq_append_getElem hk, rws_snoc, hrow]
  · have o := (h.out.below hb h.out.1).set ts.length (.slice (some ⟨g1, 0, none⟩) row.length row.length) (by rw [List.length_append, svs_len, List.length_replicate]; omega)
    obtain ⟨m, hm⟩ : ∃ m, ss.length - ts.length = m + 1 := ⟨ss.length - ts.length - 1, by omega⟩
    rw [hm, List.replicate_succ, set_mid _ _ _ _ _ (svs_len ts)] at o
    have e : svs (ts ++ [SR.mk (some ⟨g1, 0, none⟩) row row.length]) ++ List.replicate (ss.length - (ts ++ [SR.mk (some ⟨g1, 0, none⟩) row row.length]).length) (.slice none 0 0) = svs ts ++ .slice (some ⟨g1, 0, none⟩) row.length row.length :: List.replicate m (.slice none 0 0) := by
      rw [List.length_append, List.length_singleton, show ss.length - (ts.length + 1) = m by omega]
      simp [svs, srv]
    rw [e]
    exact o
  · intro s hs
    rcases List.mem_append.1 hs with h1 | h1
    · obtain ⟨b, e, q1, q2, q3, q4, q5⟩ := h.rows s h1
      exact ⟨b, e, q1, by rw [hsz]; exact Nat.lt_of_lt_of_le q2 hb.size, q3, (q4.below hb q4.1).apart hgs q3, q5⟩
    · simp at h1
      subst h1
      exact ⟨g1, rfl, by omega, by rw [hsz]; exact hc.1, hne, hc.apart hgs hne, Nat.le_refl _⟩
  · rw [List.map_append, List.nodup_append]
    refine ⟨h.apart, by simp, fun l hl l' hl' => ?_⟩
    obtain ⟨s, hs, rfl⟩ := List.mem_map.1 hl
    simp only [List.map_cons, List.map_nil, List.mem_singleton] at hl'
    subst hl'
    obtain ⟨b, e, _, q2, _⟩ := h.rows s hs
    rw [e]
    intro e2
    have e4 : b = g1 := congrArg Addr.block (Option.some.inj e2)
    omega
  · exact (h.bel.trans (hb.mono h.bel.size)).setCell (p := ⟨w.heap.size, ts.length, none⟩) (Nat.le_refl _) _
theorem TI.fin {w wr : World} {ss ts : List SR} (h : TI w wr ss ts) (hl : ts.length = ss.length) : rws ts = rws ss ∧ MW wr w.heap.size ts w.heap.size wr.heap.size := by
  refine ⟨by rw [h.rweq, hl, List.take_of_length_le (Nat.le_refl _)], ?_, Nat.le_refl _, h.out.1, h.rows, h.apart⟩
  have := h.out
  rwa [hl, Nat.sub_self, List.replicate_zero, List.append_nil] at this
/-- What a copy of a row of rows is. -/
def ToRows (ss : List SR) (w : World) (e : Ending) (w' : World) : Prop :=
  ∃ g ts, e = .returned (.slice (some ⟨g, 0, none⟩) ss.length ss.length) ∧ List.length (α := SR) ts = ss.length ∧ rws ts = rws ss ∧ MW w' g ts w.heap.size w'.heap.size ∧ Below w.heap.size w w'
/-- The size of rows of numbers, as the laws count it. -/
def msum : List SR → Nat
  | [] => 0
  | s :: ss => s.row.length + msum ss
theorem msum_take (ss : List SR) (k : Nat) (h : k < ss.length) : msum (ss.take (k + 1)) = msum (ss.take k) + ss[k].row.length := by
  induction ss generalizing k with
  | nil => simp at h
  | cons s ss ih =>
    cases k with
    | zero => simp [msum]
    | succ k =>
      have := ih k (by simpa using h)
      simp only [List.take_succ_cons, msum, this, List.getElem_cons_succ]
      omega
theorem msum_le (ss : List SR) (k : Nat) : msum (ss.take k) ≤ msum ss := by
  induction ss generalizing k with
  | nil => simp [msum]
  | cons s ss ih =>
    cases k with
    | zero => simp [msum]
    | succ k => have := ih k; simp only [List.take_succ_cons, msum]; omega
theorem msum_mem {ss : List SR} {s : SR} (h : s ∈ ss) : s.row.length ≤ msum ss := by
  induction ss with
  | nil => simp at h
  | cons t ss ih =>
    rcases List.mem_cons.1 h with rfl | h
    · simp only [msum]; omega
    · have := ih h; simp only [msum]; omega
/-- What is left of the room: or a number below 0. -/
def SzRows (left : Int) (n : Nat) (w : World) (e : Ending) (w' : World) : Prop := ∃ r : Int, e = .returned (.int .i64 r) ∧ w' = w ∧ ((n : Int) ≤ left → r = left - n) ∧ (left < n → r < 0)
end Go.Proofs.Ytodgabdhgaglmaa
/- StrW: The size of a row of texts. -/
namespace Go.Proofs.Ytodgabdhgaglmaa
set_option maxRecDepth 100000
open Go.RowKit
attribute [local go_sem ↓] Go.wp_at_zero Go.wp_at_succ

end Go.Proofs.Ytodgabdhgaglmaa
/- OffA: Rows of texts that lie anywhere in their block: held against one another, marked, found again. -/
namespace Go.Proofs.Ytodgabdhgaglmaa
set_option maxRecDepth 100000
open Go.RowKit
attribute [local go_sem ↓] Go.wp_at_zero Go.wp_at_succ

/-- Texts that may be written, from a place of a block on. -/
def OCells (w : World) (g off : Nat) (xs : List ByteArray) : Prop :=
  g < w.heap.size ∧ ∀ j, j < xs.length → w.cell? ⟨g, off + j, none⟩ = some (.string (xs.getD j ⟨#[]⟩)) ∧ w.frozen? ⟨g, off + j, none⟩ = false
theorem OCells.below {w w' : World} {g off B : Nat} {xs : List ByteArray} (h : OCells w g off xs) (hb : Below B w w') (hg : g < B) : OCells w' g off xs :=
  ⟨Nat.lt_of_lt_of_le h.1 hb.size, fun j hj => ⟨(hb.cell (p := ⟨g, off + j, none⟩) hg).trans (h.2 j hj).1, (hb.frozen (p := ⟨g, off + j, none⟩) hg).trans (h.2 j hj).2⟩⟩
theorem OCells.block {w w' : World} {g off : Nat} {xs : List ByteArray} (h : OCells w g off xs) (hs : w.heap.size ≤ w'.heap.size) (hb : w'.heap[g]? = w.heap[g]?) : OCells w' g off xs :=
  ⟨Nat.lt_of_lt_of_le h.1 hs, fun j hj => ⟨(World.cell?_of_block (a := ⟨g, off + j, none⟩) hb).trans (h.2 j hj).1, (World.frozen?_of_block (a := ⟨g, off + j, none⟩) hb).trans (h.2 j hj).2⟩⟩
theorem OCells.set {w : World} {g off : Nat} {xs : List ByteArray} (h : OCells w g off xs) (i : Nat) (x : ByteArray) (hi : i < xs.length) : OCells (w.setCell ⟨g, off + i, none⟩ (.string x)) g off (xs.set i x) := by
  refine ⟨by have := h.1; simpa [World.setCell] using this, fun j hj => ?_⟩
  rw [List.length_set] at hj
  refine ⟨?_, (World.frozen?_setCell _ _ _ _).trans (h.2 j hj).2⟩
  by_cases e : j = i
  · subst e
    rw [World.cell?_setCell_same _ _ _ (h.2 j hj).1]
    simp [List.getD, hi]
  · rw [World.cell?_setCell_other _ _ _ _ (by first | (simp; done) | (simp; omega)), (h.2 j hj).1]
    simp [List.getD, Ne.symm e]
theorem OCells.marks {w : World} {g off k n : Nat} {ys : List ByteArray} (h : OCells w g off ys) (hl : ys.length = n) (hy : ∀ t, t < n → ys.getD t ⟨#[]⟩ = mt (k + t)) : OCells w g off (marks k n) := by
  refine ⟨h.1, fun j hj => ?_⟩
  rw [marks_len] at hj
  have := h.2 j (by omega)
  rw [marks_at k n j hj, ← hy j hj]
  exact this
/-- An answer of texts, wherever in its block. -/
def OAns (w : World) (v : Value) (L : List ByteArray) (lo hi : Nat) : Prop := ∃ (a : Option Addr) (cap : Nat), v = .slice a L.length cap ∧ L.length ≤ cap ∧ (L = [] ∨ ∃ g off, a = some ⟨g, off, none⟩ ∧ lo ≤ g ∧ g < hi ∧ OCells w g off L)
theorem OAns.see {w : World} {v : Value} {L : List ByteArray} {lo hi : Nat} (h : OAns w v L lo hi) : SSee w v L lo hi := by
  obtain ⟨a, cap, e, _, h1⟩ := h
  refine ⟨a, cap, e, ?_⟩
  rcases h1 with rfl | ⟨g, off, rfl, q1, q2, hm⟩
  · intro h; simp [tv] at h
  · intro _
    refine ⟨g, off, rfl, q1, q2, hm.1, fun i v hv => ?_⟩
    have hi : i < L.length := by
      have := (List.getElem?_eq_some_iff.1 hv).1
      rwa [tv_len] at this
    rw [tv_get L i hi] at hv
    cases hv
    exact (hm.2 i hi).1
theorem SAns.oans {w : World} {v : Value} {L : List ByteArray} {lo hi : Nat} (h : SAns w v L lo hi) : OAns w v L lo hi := by
  obtain ⟨a, cap, e, hc, h1⟩ := h
  refine ⟨a, cap, e, hc, ?_⟩
  rcases h1 with rfl | ⟨g, rfl, q1, q2, hm⟩
  · exact .inl rfl
  · refine .inr ⟨g, 0, rfl, q1, q2, hm.1, fun j hj => ?_⟩
    rw [Nat.zero_add]
    exact hm.2 j _ (tv_get L j hj)
theorem OAns.form {w : World} {v : Value} {L : List ByteArray} {lo hi : Nat} (h : OAns w v L lo hi) : ∃ a cap, v = .slice a L.length cap := by
  obtain ⟨a, cap, e, _⟩ := h
  exact ⟨a, cap, e⟩
theorem OAns.turned {w w' : World} {v : Value} {L : List ByteArray} {lo hi lo' hi' : Nat} (h : OAns w v L lo hi) (t : Turned w w' lo' hi') (hd : hi ≤ lo' ∨ hi' ≤ lo) : OAns w' v L lo hi := by
  obtain ⟨a, cap, e, hc, h1⟩ := h
  refine ⟨a, cap, e, hc, ?_⟩
  rcases h1 with rfl | ⟨g, off, rfl, q1, q2, hm⟩
  · exact .inl rfl
  · exact .inr ⟨g, off, rfl, q1, q2, hm.block t.size (t.block g hm.1 (by omega))⟩
theorem OAns.below {w w' : World} {v : Value} {L : List ByteArray} {lo hi : Nat} (h : OAns w v L lo hi) (hb : Below w.heap.size w w') : OAns w' v L lo hi := by
  obtain ⟨a, cap, e, hc, h1⟩ := h
  refine ⟨a, cap, e, hc, ?_⟩
  rcases h1 with rfl | ⟨g, off, rfl, q1, q2, hm⟩
  · exact .inl rfl
  · exact .inr ⟨g, off, rfl, q1, q2, hm.below hb hm.1⟩
theorem same_beq (x : ByteArray) : (x.toList == x.toList) = true := by simp
end Go.Proofs.Ytodgabdhgaglmaa
/- GuardA: An append that stands behind a guard which is open. -/
namespace Go.Proofs.Ytodgabdhgaglmaa
set_option maxRecDepth 100000

theorem wpList_append_guard {P : Program} {w : World} {ops : Array Oper} {rest : List Oper} {o : Oper} {a : Act} {Q : Exit → Act → World → Prop} (hgd : Region.wanted o (yielded ops a.tmps) = true) (s x : Operand) (t : TypeId)
    (ho : o.op = .call { callee := .builtin .append, args := #[s, x], argTypes := #[t, t] })
    (base : Nat) (e : TypeId) (i : TypeInfo) (z : Value) (size bytes : Nat) (ht : P.underlying t = some (.slice e)) (hi : P.info? e = some i) (hz : i.zero = some z)
    (hsize : i.size = size) (hby : i.bytes = bytes) (hzs : z.cells.size = size) (hsz : 0 < size)
    (v : Value) (n : Nat) (xs : List Value) (hs : a.eval s = v) (hown : w.ownsRow base e size v n xs)
    (ad : Addr) (m c : Nat) (news : List Value) (hx : a.eval x = .slice (some ad) m c) (hl : news.length = m * size) (hnews : ∀ j u, news[j]? = some u → w.cell? (ad.add j) = some u) (h1 : ∀ u ∈ news, u.oneCell' = true)
    (h63 : n + m ≤ maxLen) (hbytes : (n + m) * bytes ≤ 140737488355328) (hbase : base ≤ w.heap.size)
    (h : ∀ v' w', w'.ownsRow base e size v' (n + m) (xs ++ news) → w.grownBy w' v.ownBlock → wpList P ops Q rest (a.put o.dst v') w') :
    wpList P ops Q (o :: rest) a w := by
  obtain ⟨v', w', hr, h2, h3, h4, h5⟩ := run_append_own_at (P := P) w base t o.type e i z size bytes ht hi hz hsize hby hzs hsz v n xs hown ad m c news hl hnews h1 h63 hbytes hbase
  show if Region.wanted o (yielded ops a.tmps) = true then _ else _
  rw [if_pos hgd]
  left
  unfold Oper.wp execOp
  simp only [ho, resolve, invoke, builtin, Sem.run_bind, Sem.run_pure, Result.andThen_ok, List.map_toArray, List.map_cons, List.map_nil, hs, hx, hr]
  exact h v' w' h2 h3
end Go.Proofs.Ytodgabdhgaglmaa
/- OffB: Rows of texts that the call made, from any place of their block on: made longer; what answers of texts and a flag are. -/
namespace Go.Proofs.Ytodgabdhgaglmaa
set_option maxRecDepth 100000
open Go.RowKit

/-- A text in a slice of which more is there than its length. -/
def CSee (w : World) (v : Value) (L : List ByteArray) (lo hi : Nat) : Prop := ∃ (a : Option Addr) (cap : Nat), v = .slice a L.length cap ∧ L.length ≤ cap ∧ RRow w a (tv L) lo hi
theorem CSee.see {w : World} {v : Value} {L : List ByteArray} {lo hi : Nat} (h : CSee w v L lo hi) : SSee w v L lo hi := by
  obtain ⟨a, cap, e, _, h1⟩ := h
  exact ⟨a, cap, e, h1⟩
theorem OAns.csee {w : World} {v : Value} {L : List ByteArray} {lo hi : Nat} (h : OAns w v L lo hi) : CSee w v L lo hi := by
  obtain ⟨a, cap, e, hr⟩ := h.see
  obtain ⟨a', cap', e', hc, _⟩ := h
  rw [e] at e'
  cases e'
  exact ⟨a, cap, e, hc, hr⟩
/-- A row of texts of the call's own, from any place of its block on. -/
def OwnAt (w : World) (base : Nat) (v : Value) (n : Nat) (L : List ByteArray) : Prop :=
  L.length = n ∧ ((v = .slice none 0 0 ∧ n = 0) ∨ ∃ g off cap, v = .slice (some ⟨g, off, none⟩) n cap ∧ base ≤ g ∧ n ≤ cap ∧ (∀ j, j < cap → (w.cell? ⟨g, off + j, none⟩).isSome = true ∧ w.frozen? ⟨g, off + j, none⟩ = false) ∧ OCells w g off L)
theorem OwnAt.nil (w : World) (base : Nat) : OwnAt w base (.slice none 0 0) 0 [] := ⟨rfl, .inl ⟨rfl, rfl⟩⟩
theorem own_cell1 {w : World} {g : Nat} {cur : Array Value} (hg : w.heap[g]? = some (.cells cur 9 (0, 0))) (j : Nat) (hj : j < cur.size) : (w.cell? ⟨g, j, none⟩).isSome = true ∧ w.frozen? ⟨g, j, none⟩ = false := by
  refine ⟨?_, ?_⟩
  · simp [World.cell?, hg, hj]
  · simp [World.frozen?, hg]
theorem own_tail {w : World} {base g n cap : Nat} {L : List ByteArray} {x : ByteArray} (h : w.ownsRow base 9 1 (.slice (some ⟨g, 0, none⟩) (n + 1) cap) (n + 1) (tv (x :: L))) : OwnAt w base (.slice (some ⟨g, 1, none⟩) n (cap - 1)) n L := by
  have hw := own_wcells h
  have hl := h.1
  rw [tv_len, List.length_cons] at hl
  rcases h.2 with ⟨e, _⟩ | ⟨g', cap', cur, e, hb, hg, hn, _, hs, _⟩
  · cases e
  · cases e
    refine ⟨by omega, .inr ⟨g, 1, cap - 1, rfl, hb, by omega, fun j hj => own_cell1 hg _ (by omega), hw.1, fun j hj => ?_⟩⟩
    have := hw.2 (1 + j) (.string (L.getD j ⟨#[]⟩)) (by rw [Nat.add_comm]; exact tv_get L j hj)
    exact this
theorem own_at {w : World} {base n : Nat} {v : Value} {L : List ByteArray} (h : w.ownsRow base 9 1 v n (tv L)) : OwnAt w base v n L := by
  have hl := h.1
  rw [tv_len] at hl
  rcases h.2 with ⟨e, h0⟩ | ⟨g, cap, cur, rfl, hb, hg, hn, _, hs, _⟩
  · exact ⟨by omega, .inl ⟨e, h0⟩⟩
  · have hw := own_wcells h
    refine ⟨by omega, .inr ⟨g, 0, cap, rfl, hb, hn, fun j hj => ?_, hw.1, fun j hj => ?_⟩⟩
    · rw [Nat.zero_add]; exact own_cell1 hg _ (by omega)
    · rw [Nat.zero_add]; exact hw.2 j _ (tv_get L j hj)
theorem OwnAt.oans {w : World} {base n : Nat} {v : Value} {L : List ByteArray} (h : OwnAt w base v n L) : OAns w v L base w.heap.size := by
  obtain ⟨hl, h | ⟨g, off, cap, e, hb, hn, _, hc⟩⟩ := h
  · obtain ⟨e, h0⟩ := h
    rw [h0] at hl
    rw [List.eq_nil_of_length_eq_zero hl]
    exact ⟨none, 0, e, Nat.le_refl _, .inl rfl⟩
  · exact ⟨_, cap, by rw [hl]; exact e, by omega, .inr ⟨g, off, rfl, hb, hc.1, hc⟩⟩
theorem OwnAt.lt {w : World} {base n : Nat} {v : Value} {L : List ByteArray} (h : OwnAt w base v n L) : ∀ k, v.ownBlock = some k → base ≤ k ∧ k < w.heap.size := by
  intro k hk
  obtain ⟨_, ⟨rfl, _⟩ | ⟨g, off, cap, rfl, hb, _, _, hc⟩⟩ := h
  · cases hk
  · cases hk; exact ⟨hb, hc.1⟩
theorem OwnAt.kept {w w' : World} {base n : Nat} {v : Value} {L : List ByteArray} (h : OwnAt w base v n L) (hs : w.heap.size ≤ w'.heap.size) (hb : ∀ k, v.ownBlock = some k → w'.heap[k]? = w.heap[k]?) : OwnAt w' base v n L := by
  obtain ⟨hl, h0 | ⟨g, off, cap, rfl, hbs, hn, hf, hc⟩⟩ := h
  · exact ⟨hl, .inl h0⟩
  · have e := hb g rfl
    exact ⟨hl, .inr ⟨g, off, cap, rfl, hbs, hn, fun j hj => by rw [World.cell?_of_block (a := ⟨g, off + j, none⟩) e, World.frozen?_of_block (a := ⟨g, off + j, none⟩) e]; exact hf j hj, hc.block hs e⟩⟩
theorem OwnAt.below {w w' : World} {base n : Nat} {v : Value} {L : List ByteArray} (h : OwnAt w base v n L) (hb : Below w.heap.size w w') : OwnAt w' base v n L := h.kept hb.size (fun k hk => hb.block k (h.lt k hk).2)
theorem OwnAt.alloc {w : World} {base n : Nat} {v : Value} {L : List ByteArray} (h : OwnAt w base v n L) (o : Obj) : OwnAt (w.alloc o) base v n L := h.below ((Below.refl _ _).alloc (Nat.le_refl _) _)
theorem isSome_set {w : World} {a p : Addr} {x : Value} (h : (w.cell? p).isSome = true) : ((w.setCell a x).cell? p).isSome = true := by
  obtain ⟨u, hu⟩ := Option.isSome_iff_exists.1 h
  by_cases e : p = a
  · subst e
    rw [World.cell?_setCell_same _ _ _ hu]; rfl
  · rw [World.cell?_setCell_other _ _ _ _ (Ne.symm e)]; exact h
theorem OCells.more {w : World} {g off : Nat} {L : List ByteArray} {x : ByteArray} (h : OCells w g off L) (hc : (w.cell? ⟨g, off + L.length, none⟩).isSome = true) (hf : w.frozen? ⟨g, off + L.length, none⟩ = false) : OCells (w.setCell ⟨g, off + L.length, none⟩ (.string x)) g off (L ++ [x]) := by
  refine ⟨by have := h.1; simpa [World.setCell] using this, fun j hj => ?_⟩
  rw [List.length_append, List.length_singleton] at hj
  obtain ⟨u, hu⟩ := Option.isSome_iff_exists.1 hc
  by_cases e : j = L.length
  · subst e
    refine ⟨?_, (World.frozen?_setCell _ _ _ _).trans hf⟩
    rw [World.cell?_setCell_same _ _ _ hu]
    simp [List.getD]
  · have hj' : j < L.length := by omega
    refine ⟨?_, (World.frozen?_setCell _ _ _ _).trans (h.2 j hj').2⟩
    rw [World.cell?_setCell_other _ _ _ _ (fun q => e (by have := congrArg Addr.off q; simp at this; omega)), (h.2 j hj').1]
    simp [List.getD, List.getElem?_append_left hj']
theorem grow_none {w w' : World} {r : Option Nat} (h : w.grownBy w' none) : w.grownBy w' r := ⟨h.os, h.tape, h.output, h.size, fun k hk _ => h.block k hk (by simp)⟩
theorem own_mono {w : World} {B B' n t : Nat} {v : Value} {L : List Value} (h : w.ownsRow B t 1 v n L) (hb : B' ≤ B) : w.ownsRow B' t 1 v n L :=
  ⟨h.1, h.2.imp id fun ⟨g, cap, cur, h1, h2, h3⟩ => ⟨g, cap, cur, h1, Nat.le_trans hb h2, h3⟩⟩
theorem run_append_off {w : World} {base n : Nat} {v : Value} {L : List ByteArray} (hown : OwnAt w base v n L) (ty : TypeId) (i : TypeInfo) (hi : Try.prog.info? 9 = some i) (hz : i.zero = some (.string ⟨#[]⟩)) (hsize : i.size = 1) (hby : i.bytes = 16)
    (ad : Addr) (c : Nat) (x : ByteArray) (hx : w.cell? (ad.add 0) = some (.string x)) (h63 : n + 1 ≤ 1000000) (hbase : base ≤ w.heap.size) :
    ∃ v' w', (Builtin.append_ #[73, 73] ty #[v, .slice (some ad) 1 c]).run Try.prog w = .ok v' w' ∧ OwnAt w' base v' (n + 1) (L ++ [x]) ∧ w.grownBy w' v.ownBlock := by
  have hnews : ∀ (j : Nat) u, [Value.string x][j]? = some u → w.cell? (ad.add j) = some u := fun j u hu => by
    cases j with
    | zero => cases hu; exact hx
    | succ j => cases hu
  have hone : ∀ u ∈ [Value.string x], u.oneCell' = true := fun u hu => by simp at hu; subst hu; rfl
  obtain ⟨hl, ⟨rfl, h0⟩ | ⟨g, off, cap, rfl, hb, hn, hf, hc⟩⟩ := hown
  · subst h0
    obtain ⟨v', w', hr, h2, h3, _, _⟩ := run_append_own_at (P := Try.prog) w base 73 ty 9 i (.string ⟨#[]⟩) 1 16 Try.underlying73 hi hz hsize hby rfl (by decide) (.slice none 0 0) 0 [] ⟨rfl, .inl ⟨rfl, rfl⟩⟩ ad 1 c [.string x] rfl hnews hone (by unfold maxLen; omega) (by omega) hbase
    refine ⟨v', w', hr, ?_, h3⟩
    rw [List.eq_nil_of_length_eq_zero hl]
    exact own_at h2
  · by_cases hr : n + 1 ≤ cap
    · have hcc := hf n (by omega)
      refine ⟨_, _, run_append_room_cells w (P := Try.prog) 73 ty 9 i Try.underlying73 hi g off n cap ad 1 c [.string x] (by rw [hsize]; rfl) hnews hone hr ?_ ?_, ?_, ?_⟩
      · intro j hj
        have : j = 0 := by simpa using hj
        subst this
        rw [hsize, Nat.mul_one, Nat.add_zero]
        exact hcc.1
      · intro j hj
        have : j = 0 := by simpa using hj
        subst this
        rw [hsize, Nat.mul_one, Nat.add_zero]
        exact hcc.2
      · rw [hsize, Nat.mul_one]
        refine ⟨by simp [hl], .inr ⟨g, off, cap, rfl, hb, hr, fun j hj => ⟨?_, ?_⟩, ?_⟩⟩
        · exact isSome_set (hf j hj).1
        · exact (World.frozen?_setCell _ _ _ _).trans (hf j hj).2
        · have := hc.more (x := x) (by rw [hl]; exact hcc.1) (by rw [hl]; exact hcc.2)
          rw [hl] at this
          exact this
      · exact grownBy_setCell _ _ _ _
    · have holds : ∀ (j : Nat) u, (tv L)[j]? = some u → w.cell? ((⟨g, off, none⟩ : Addr).add j) = some u := fun j u hu => by
        have hj : j < L.length := by
          have := (List.getElem?_eq_some_iff.1 hu).1
          rwa [tv_len] at this
        rw [tv_get L j hj] at hu
        cases hu
        rw [Addr.add_lit]
        exact (hc.2 j hj).1
      obtain ⟨v', w', hrun, r1, r2⟩ := run_append_arg_grows w (P := Try.prog) 73 ty 9 i (.string ⟨#[]⟩) 1 16 Try.underlying73 hi hz hsize hby rfl (by decide) ⟨g, off, none⟩ n cap (tv L) (by rw [tv_len, hl, Nat.mul_one]) holds ad 1 c [.string x] rfl hnews (by omega) (by unfold maxLen; omega) (by omega)
      rw [tv_snoc] at r1
      exact ⟨v', w', hrun, own_at (own_mono r1 hbase), grow_none r2⟩
theorem wpList_append_off {w : World} {ops : Array Oper} {rest : List Oper} {o : Oper} {a : Act} {Q : Exit → Act → World → Prop} (hgd : Region.wanted o (yielded ops a.tmps) = true) (s x : Operand)
    (ho : o.op = .call { callee := .builtin .append, args := #[s, x], argTypes := #[73, 73] })
    (base : Nat) (i : TypeInfo) (hi : Try.prog.info? 9 = some i) (hz : i.zero = some (.string ⟨#[]⟩)) (hsize : i.size = 1) (hby : i.bytes = 16)
    (v : Value) (n : Nat) (L : List ByteArray) (hs : a.eval s = v) (hown : OwnAt w base v n L)
    (ad : Addr) (c : Nat) (t : ByteArray) (hx : a.eval x = .slice (some ad) 1 c) (hc : w.cell? (ad.add 0) = some (.string t)) (h63 : n + 1 ≤ 1000000) (hbase : base ≤ w.heap.size)
    (h : ∀ v' w', OwnAt w' base v' (n + 1) (L ++ [t]) → w.grownBy w' v.ownBlock → wpList Try.prog ops Q rest (a.put o.dst v') w') :
    wpList Try.prog ops Q (o :: rest) a w := by
  obtain ⟨v', w', hr, h2, h3⟩ := run_append_off hown o.type i hi hz hsize hby ad c t hc h63 hbase
  show if Region.wanted o (yielded ops a.tmps) = true then _ else _
  rw [if_pos hgd]
  left
  unfold Oper.wp execOp
  simp only [ho, resolve, invoke, builtin, Sem.run_bind, Sem.run_pure, Result.andThen_ok, List.map_toArray, List.map_cons, List.map_nil, hs, hx, hr]
  exact h v' w' h2 h3
/-- What an answer of texts and a flag is, in a row that may be made longer, wherever in its block. -/
def QPost (R : List ByteArray × Bool) (w : World) (e : Ending) (w' : World) : Prop := ∃ v, e = .returned (.tuple #[v, .bool R.2]) ∧ OwnAt w' w.heap.size v R.1.length R.1 ∧ Below w.heap.size w w'
theorem QPost.none {R : List ByteArray × Bool} {b : Bool} {w w' : World} (h : R = ([], b)) (hb : Below w.heap.size w w') : QPost R w (.returned (.tuple #[.slice none 0 0, .bool b])) w' := by
  unfold QPost
  rw [h]
  exact ⟨_, rfl, OwnAt.nil _ _, hb⟩
end Go.Proofs.Ytodgabdhgaglmaa
/- PaK: The program's own SplitPath. -/
namespace Go.Proofs.Ytodgabdhgaglmaa
set_option maxRecDepth 100000
open Go.RowKit
open Go.PlainAid (bt)
attribute [local go_sem ↓] Go.wp_at_zero Go.wp_at_succ

theorem split_parts {p x : ByteArray} {L : List ByteArray} (hp : p ≠ ⟨#[47]⟩) (h : (segs (lb p)).map ba = x :: L) : splitB p = if x.size = 0 ∧ 1 ≤ L.length ∧ L.length ≤ 4 ∧ (∀ s ∈ L, nameB s = true) then (L, true) else ([], false) := by
  unfold splitB
  cases e : lb p with
  | nil =>
    rw [e] at h
    simp only [segs, List.map_cons, List.map_nil, List.cons.injEq] at h
    rw [← h.2, if_neg (fun q => by have := q.2.1; simp at this)]
    rfl
  | cons c r =>
    rw [e] at h
    by_cases hc : c = 47
    · subst hc
      have hr : r ≠ [] := fun q => by
        subst q
        apply hp
        have := congrArg ba e
        rwa [ba_lb] at this
      have e1 : segs (47 :: r) = [] :: segs r := by simp [segs]
      rw [e1, List.map_cons, List.cons.injEq] at h
      obtain ⟨h1, h2⟩ := h
      have hx : x.size = 0 := by rw [← h1]; rfl
      have hlen : L.length = (segs r).length := by rw [← h2, List.length_map]
      have hpos : 1 ≤ L.length := by
        rw [hlen]
        exact List.length_pos_iff.2 (segs_ne r)
      have hall : (∀ s ∈ L, nameB s = true) ↔ (segs r).all nameL = true := by
        rw [← h2, List.all_eq_true]
        constructor
        · intro q l hl
          have := q (ba l) (List.mem_map.2 ⟨l, hl, rfl⟩)
          unfold nameB at this
          rwa [lb_ba] at this
        · intro q s hs
          obtain ⟨l, hl, rfl⟩ := List.mem_map.1 hs
          unfold nameB
          rw [lb_ba]
          exact q l hl
      have es : splitP (47 :: r) = if (segs r).all nameL = true ∧ (segs r).length ≤ 4 then (segs r, true) else ([], false) := by
        unfold splitP
        simp only
        rw [if_pos trivial, if_neg hr]
      rw [es]
      by_cases q : (segs r).all nameL = true ∧ (segs r).length ≤ 4
      · rw [if_pos q, if_pos ⟨hx, hpos, by omega, hall.2 q.1⟩]
        simp only
        rw [h2]
      · rw [if_neg q, if_neg (fun k => q ⟨hall.1 k.2.2.2, by have := k.2.2.1; omega⟩)]
        rfl
    · have e2 : splitP (c :: r) = ([], false) := by unfold splitP; exact if_neg hc
      rw [e2]
      obtain ⟨y, t, ht⟩ : ∃ y t, segs r = y :: t := by
        cases q : segs r with
        | nil => exact absurd q (segs_ne r)
        | cons y t => exact ⟨y, t, rfl⟩
      rw [segs_cons hc ht, List.map_cons, List.cons.injEq] at h
      have hx : x.size ≠ 0 := by
        rw [← h.1]
        show (c :: y).toArray.size ≠ 0
        simp
      rw [if_neg (fun k => hx k.1)]
      rfl
theorem parts_ne (p : ByteArray) : ∃ x L, (segs (lb p)).map ba = x :: L := by
  cases q : segs (lb p) with
  | nil => exact absurd q (segs_ne _)
  | cons y t => exact ⟨ba y, t.map ba, rfl⟩
theorem strClone9 (s : ByteArray) (w : World) (h : s.size ≤ 281474976710656) : Calls Try.prog 37 #[.string s] w fun e w' => e = .returned (.string s) ∧ Below w.heap.size w w' := by
  go_enter Try.func37, Try.ntmps37
  go_wp2_with fail
  refine (Try.stringslite_Clone s _ h).mono ?_
  rintro e w1 ⟨rfl, hb⟩
  go_wp2_with fail
  go_ret
  exact ⟨rfl, hb⟩
theorem OwnAt.same {w : World} {base g off n cap k : Nat} {L : List ByteArray} (h : OwnAt w base (.slice (some ⟨g, off, none⟩) n cap) n L) (hk : k < L.length) : OwnAt (w.setCell ⟨g, off + k, none⟩ (.string (L.getD k ⟨#[]⟩))) base (.slice (some ⟨g, off, none⟩) n cap) n L := by
  obtain ⟨hl, h | ⟨g', off', cap', e, hb, hn, hf, hc⟩⟩ := h
  · cases h.1
  · cases e
    have hs := hc.set k (L.getD k ⟨#[]⟩) hk
    have e2 : L.set k (L.getD k ⟨#[]⟩) = L := by
      have : L.getD k ⟨#[]⟩ = L[k] := by simp [List.getD, hk]
      rw [this]
      exact List.set_getElem_self hk
    rw [e2] at hs
    exact ⟨hl, .inr ⟨g, off, cap, rfl, hb, hn, fun j hj => ⟨isSome_set (hf j hj).1, (World.frozen?_setCell _ _ _ _).trans (hf j hj).2⟩, hs⟩⟩
theorem seg_small (p : ByteArray) : ∀ s ∈ (segs (lb p)).map ba, s.size ≤ p.size := by
  have h : ∀ (l : List UInt8), ∀ t ∈ segs l, t.length ≤ l.length := by
    intro l
    induction l with
    | nil => intro t ht; simp [segs] at ht; subst ht; simp
    | cons c r ih =>
      intro t ht
      unfold segs at ht
      split at ht
      · rcases List.mem_cons.1 ht with rfl | q
        · simp
        · have := ih t q; simp; omega
      · split at ht
        · rename_i q; exact absurd q (segs_ne r)
        · rename_i y u q
          rcases List.mem_cons.1 ht with rfl | k
          · have := ih y (by rw [q]; simp); simp; omega
          · have := ih t (by rw [q]; simp [k]); simp; omega
  intro s hs
  obtain ⟨l, hl, rfl⟩ := List.mem_map.1 hs
  exact h _ l hl
set_option maxRecDepth 100000 in
set_option maxHeartbeats 2000000 in
theorem implSplitPath (p : ByteArray) (w : World) (hs : p.size ≤ 1048576) : Calls Try.prog 72 #[.string p] w fun e w' => QPost (splitB p) w e w' := by
  by_cases h1 : p = ⟨#[47]⟩
  · have HE := Shut.mk (splitB_one h1)
    have h1' : (p.toList == [47]) = true := by rw [h1, Go.ByteArray.toList_eq]; rfl
    have HP := Shut.mk h1
    clear h1
    go_enter Try.func72, Try.ntmps72
    go_wp2_with fail
    go_ret2
    exact QPost.none HE.out (Below.refl _ _)
  have h1' : (p.toList == [47]) = false := by
    rw [beq_eq_false_iff_ne]
    intro e
    rw [Go.ByteArray.toList_eq] at e
    exact h1 (ByteArray.ext (Array.toList_inj.1 e))
  have HB0 := Shut.mk (fun W => implBetween p W hs)
  obtain ⟨x, L, hxl⟩ := parts_ne p
  have hsm := seg_small p
  have hsp := split_parts h1 hxl
  have hln : (segs (lb p)).length = L.length + 1 := by
    have := congrArg List.length hxl
    rwa [List.length_map, List.length_cons] at this
  rw [hln, hxl] at HB0
  rw [hxl] at hsm
  have HSM := Shut.mk hsm
  have HSP := Shut.mk hsp
  clear h1 hxl hsm hsp hln
  obtain ⟨n, hn⟩ : ∃ n, n = L.length := ⟨_, rfl⟩
  rw [← hn] at HB0 HSP
  have HN := Shut.mk hn
  clear hn
  go_enter Try.func72, Try.ntmps72
  go_wp2_with fail
  refine (HB0.out _).mono ?_
  rintro e w1 ⟨v, rfl, hown, hb⟩
  obtain ⟨g, cap, rfl, hcap⟩ := own_some9 hown (by omega)
  have HB := Shut.mk hb
  have hw := own_wcells hown
  have c0 := (hw.2 0 (.string x) rfl).1
  have HOT := Shut.mk (own_tail hown)
  have z1 := hb.size
  clear hb hw hown HB0
  by_cases hx : x.size = 0
  case neg =>
    have hx1 : (x.toList != []) = true := by
      rw [bne_iff_ne]
      intro q
      rw [Go.ByteArray.toList_eq] at q
      exact hx (show x.data.size = 0 by rw [← Array.length_toList, q]; rfl)
    have hx2 : ¬ x.toList = [] := bne_iff_ne.1 hx1
    have HE : Shut (splitB p = ([], false)) := ⟨by rw [HSP.out, if_neg (fun q => hx q.1)]⟩
    clear HSP hx
    by_cases hc1 : cap = 1
    all_goals
      go_wp2_with fail
      go_quiet (fail)
      go_wp2_with fail
      go_ret2
      exact QPost.none HE.out (below_drewN HB.out _)
  have hx1 : (x.toList != []) = false := by
    rw [bne_eq_false_iff_eq, Go.ByteArray.toList_eq]
    exact List.eq_nil_of_length_eq_zero (by rw [Array.length_toList]; exact hx)
  have hx2 : x.toList = [] := by rwa [bne_eq_false_iff_eq] at hx1
  by_cases hn1 : (n : Int) < 1
  · have HE : Shut (splitB p = ([], false)) := ⟨by rw [HSP.out, if_neg (fun q => by have := q.2.1; omega)]⟩
    have hn5 : ¬ (1 : Int) ≤ (n : Int) := by omega
    clear HSP hx
    by_cases hc1 : cap = 1
    all_goals
      go_wp2_with fail
      go_quiet (fail)
      go_wp2_with fail
      go_ret2
      exact QPost.none HE.out (below_drewN HB.out _)
  by_cases hn4 : (4 : Int) < (n : Int)
  · have HE : Shut (splitB p = ([], false)) := ⟨by rw [HSP.out, if_neg (fun q => by have := q.2.2.1; omega)]⟩
    have hn5 : (1 : Int) ≤ (n : Int) := by omega
    have hn6 : ¬ (n : Int) ≤ 4 := by omega
    clear HSP hx
    by_cases hc1 : cap = 1
    all_goals
      go_wp2_with fail
      go_quiet (fail)
      go_wp2_with fail
      go_ret2
      exact QPost.none HE.out (below_drewN HB.out _)
  have hc1 : ¬ cap = 1 := by omega
  have hn5 : (1 : Int) ≤ (n : Int) := by omega
  have hn6 : (n : Int) ≤ 4 := by omega
  have HE : Shut (splitB p = if (∀ s ∈ L, nameB s = true) then (L, true) else ([], false)) := ⟨by
    rw [HSP.out]
    by_cases q : ∀ s ∈ L, nameB s = true
    · rw [if_pos q, if_pos ⟨hx, by omega, by omega, q⟩]
    · rw [if_neg q, if_neg (fun k => q k.2.2.2)]⟩
  clear HSP hx
  go_wp2_with fail
  go_quiet (fail)
  go_wp2_with fail
  go_loopw [32] (fun i wr => ∃ (k : Nat), i = .int .i64 k ∧ k ≤ n ∧ Shut (∀ j, j < k → nameB (L.getD j ⟨#[]⟩) = true) ∧ Shut (OwnAt wr w.heap.size (.slice (some ⟨g, 1, none⟩) n (cap - 1)) n L) ∧ Shut (Below w.heap.size w wr)) (fun i _ => n - (intOf i).toNat)
  case atStart => exact ⟨0, rfl, Nat.zero_le _, ⟨fun j hj => by omega⟩, ⟨HOT.out.kept (Nat.le_refl _) (fun _ _ => rfl)⟩, ⟨below_drewN HB.out _⟩⟩
  case round =>
    clear HOT HB c0
    obtain ⟨k, rfl, hk, hall, hown, hbl⟩ := hrel
    by_cases hlt : k < n
    · have hkL : k < L.length := by have := HN.out; omega
      obtain ⟨_, q | ⟨g', off', cap', e', hgb, hnc, hf, hoc⟩⟩ := hown.out
      · cases q.1
      cases e'
      have c1 := (hoc.2 k hkL).1
      have c2 := (hoc.2 k hkL).2
      have hg := hoc.1
      have hB := hbl.out.size
      have k0 : (0 : Int) ≤ (k : Int) := by omega
      have k1 : (k : Int) < (n : Int) := by omega
      have hmem : L.getD k ⟨#[]⟩ ∈ L := by simp [List.getD, hkL]
      have hsz : (L.getD k ⟨#[]⟩).size ≤ 1048576 := by have := HSM.out _ (List.mem_cons_of_mem x hmem); omega
      have HNA := Shut.mk (fun W => implNameOk (L.getD k ⟨#[]⟩) W hsz)
      have HCL := Shut.mk (fun W => strClone9 (L.getD k ⟨#[]⟩) W (by omega))
      clear hf hoc
      cases hnm : nameB (L.getD k ⟨#[]⟩) with
      | false =>
        have HF : Shut (splitB p = ([], false)) := ⟨by rw [HE.out, if_neg (fun q => by have := q _ hmem; rw [hnm] at this; cases this)]⟩
        rw [hnm] at HNA
        generalize L.getD k ⟨#[]⟩ = y at *
        clear hnm hmem HCL HE
        go_wp2_with fail
        refine (HNA.out _).mono ?_
        rintro e w2 ⟨rfl, hb2⟩
        have HB2 := Shut.mk (hbl.out.trans (hb2.mono hbl.out.size))
        clear hb2
        go_wp2_with fail
        go_ret2
        exact QPost.none HF.out HB2.out
      | true =>
        have HA : Shut (∀ j, j < k + 1 → nameB (L.getD j ⟨#[]⟩) = true) := ⟨fun j hj => by
          by_cases e : j = k
          · subst e; exact hnm
          · exact hall.out j (by omega)⟩
        have HSA := Shut.mk (fun W (q : OwnAt W w.heap.size (.slice (some ⟨g, 1, none⟩) n (cap - 1)) n L) => q.same hkL)
        rw [hnm] at HNA
        generalize L.getD k ⟨#[]⟩ = y at *
        clear hnm hmem HE hall
        go_wp2_with fail
        refine (HNA.out _).mono ?_
        rintro e w2 ⟨rfl, hb2⟩
        have HB2 := Shut.mk (hbl.out.trans (hb2.mono hbl.out.size))
        have HO2 := Shut.mk (hown.out.below hb2)
        rw [← hb2.cell (p := ⟨g, 1 + k, none⟩) hg] at c1
        rw [← hb2.frozen (p := ⟨g, 1 + k, none⟩) hg] at c2
        have hg2 := Nat.lt_of_lt_of_le hg hb2.size
        clear hb2 HNA hown hbl
        go_wp2_with fail
        refine (HCL.out _).mono ?_
        rintro e w3 ⟨rfl, hb3⟩
        have HB3 := Shut.mk (HB2.out.trans (hb3.mono HB2.out.size))
        have HO3 := Shut.mk (HO2.out.below hb3)
        rw [← hb3.cell (p := ⟨g, 1 + k, none⟩) hg2] at c1
        rw [← hb3.frozen (p := ⟨g, 1 + k, none⟩) hg2] at c2
        have hg3 := Nat.lt_of_lt_of_le hg2 hb3.size
        clear hb3 HCL HO2 HB2
        have HO4 := Shut.mk (HSA.out _ HO3.out)
        have HB4 := Shut.mk (HB3.out.grown (grownBy_setCell w3 g (1 + k) (.string y)) HB3.out.size (fun j hj => by cases hj; exact hgb))
        clear HO3 HB3 HSA
        go_wp2_with fail
        go_roundw
        case rel => exact ⟨k + 1, by go_num, by omega, HA, HO4, HB4⟩
        case measure => simp [intOf]; omega
    · have HF : Shut (splitB p = (L, true)) := ⟨by
        rw [HE.out, if_pos (fun s hs => ?_)]
        obtain ⟨j, hj, rfl⟩ := List.mem_iff_getElem.1 hs
        have := hall.out j (by have := HN.out; omega)
        simpa [List.getD, hj] using this⟩
      have k1 : ¬ (k : Int) < (n : Int) := by omega
      clear hall HE
      go_wp2_with fail
      go_ret2
      unfold QPost
      rw [HF.out]
      exact ⟨_, rfl, by rw [← HN.out]; exact hown.out, hbl.out⟩
end Go.Proofs.Ytodgabdhgaglmaa
/- LawPth: The walks of the exact laws over paths, over what is told of the program's own functions at every argument (first written by gen/mklawpath.py). -/
namespace Go.Proofs.Ytodgabdhgaglmaa
set_option maxRecDepth 100000
open Go.RowKit
attribute [local irreducible] nameB splitB joinB parentB tsum

/-- What an answer of texts and a flag is. -/
def TPost9 (R : List ByteArray × Bool) (w : World) (e : Ending) (w' : World) : Prop := ∃ v, e = .returned (.tuple #[v, .bool R.2]) ∧ OAns w' v R.1 w.heap.size w'.heap.size ∧ Below w.heap.size w w'
theorem OPost.tp {R : List ByteArray × Bool} {w w' : World} {e : Ending} (h : OPost R w e w') : TPost9 R w e w' := by
  obtain ⟨v, he, ho, hb⟩ := h
  exact ⟨v, he, (own_sans rfl ho).oans, hb⟩
theorem QPost.tp {R : List ByteArray × Bool} {w w' : World} {e : Ending} (h : QPost R w e w') : TPost9 R w e w' := by
  obtain ⟨v, he, ho, hb⟩ := h
  exact ⟨v, he, ho.oans, hb⟩
theorem same_toList (x : ByteArray) : (x.toList != x.toList) = false := by simp
end Go.Proofs.Ytodgabdhgaglmaa
/- Draw: The draws of the models: a cursor over the bytes of a code. What is drawn lies within its bounds; nothing but the cursor's own block is turned. -/
namespace Go.Proofs.Ytodgabdhgaglmaa
set_option maxRecDepth 100000
open Go.RowKit
attribute [local go_sem ↓] Go.wp_at_zero Go.wp_at_succ

/-- The code that is drawn from: a slice of bytes that came in, below block B. -/
def CodeAt (w : World) (B : Nat) (a : Option Addr) (len : Nat) : Prop :=
  len ≤ 1048576 ∧ (0 < len → ∃ b off, a = some ⟨b, off, none⟩ ∧ b < B ∧ ∀ j, j < len → ∃ x : Int, w.cell? ⟨b, off + j, none⟩ = some (.int .u8 x) ∧ 0 ≤ x ∧ x ≤ 255)
/-- The cursor in block g. -/
def Cur (w : World) (g B : Nat) (a : Option Addr) (len cap : Nat) : Prop :=
  B ≤ g ∧ g < w.heap.size ∧ CodeAt w B a len ∧ w.cell? ⟨g, 0, none⟩ = some (.slice a len cap) ∧
  (∃ i : Nat, w.cell? ⟨g, 1, none⟩ = some (.int .i64 i) ∧ i ≤ len) ∧ (∃ h : Int, w.cell? ⟨g, 2, none⟩ = some (.int .i64 h)) ∧
  (∀ j, j < 3 → w.frozen? ⟨g, j, none⟩ = false)
def BytePost (w : World) (g B : Nat) (a : Option Addr) (len cap : Nat) (e : Ending) (w' : World) : Prop :=
  ∃ x : Int, e = .returned (.int .i64 x) ∧ 0 ≤ x ∧ x ≤ 255 ∧ Cur w' g B a len cap ∧ w.grownBy w' (some g)

theorem and255 (n : Int) : 0 ≤ bits .and .i64 n 255 ∧ bits .and .i64 n 255 ≤ 255 := by
  have h255 : (BitVec.ofInt 64 255).toNat = 2 ^ 8 - 1 := by decide
  have key : (BitVec.ofInt 64 n &&& BitVec.ofInt 64 255).toNat = (n % ((2 ^ 64 : Nat) : Int)).toNat % 2 ^ 8 := by
    rw [BitVec.toNat_and, BitVec.toNat_ofInt, h255, Nat.and_two_pow_sub_one_eq_mod]
  have e : bits .and .i64 n 255 = n % 256 := by
    show IntKind.i64.wrap ((BitVec.ofInt 64 n &&& BitVec.ofInt 64 255).toNat : Nat) = n % 256
    rw [key, IntKind.wrap_i64]
    omega
  rw [e]; omega
theorem gb_set (w : World) (g i : Nat) (v : Value) : w.grownBy (w.setCell ⟨g, i, none⟩ v) (some g) :=
  ⟨rfl, rfl, rfl, by simp [World.setCell], fun k _ hk => Below.heap_setCell _ _ _ _ (fun e => hk (by rw [e]))⟩
theorem gb_drewN (w : World) (q : Nat) (row : Option Nat) : w.grownBy (w.drewN q) row := ⟨rfl, rfl, rfl, Nat.le_refl _, fun _ _ _ => rfl⟩
theorem gb_two {a b c : World} {row : Option Nat} (h : a.grownBy b row) (k : b.grownBy c row) : a.grownBy c row :=
  ⟨k.os.trans h.os, k.tape.trans h.tape, k.output.trans h.output, Nat.le_trans h.size k.size, fun i hi hn => (k.block i (Nat.lt_of_lt_of_le hi h.size) hn).trans (h.block i hi hn)⟩
theorem gb_below {w w' : World} {row : Option Nat} (h : Below w.heap.size w w') : w.grownBy w' row := ⟨h.os, h.tape, h.output, h.size, fun k hk _ => h.block k hk⟩
theorem below_gb {w w' : World} {g B : Nat} (h : w.grownBy w' (some g)) (hB : B ≤ g) (hs : B ≤ w.heap.size) : Below B w w' :=
  ⟨h.os, h.tape, h.output, h.size, fun k hk => h.block k (by omega) (by simp; omega)⟩
theorem CodeAt.gb {w w' : World} {B g len : Nat} {a : Option Addr} (h : CodeAt w B a len) (hg : w.grownBy w' (some g)) (hB : B ≤ g) : CodeAt w' B a len := by
  refine ⟨h.1, fun hl => ?_⟩
  obtain ⟨b, off, rfl, hb, hx⟩ := h.2 hl
  refine ⟨b, off, rfl, hb, fun j hj => ?_⟩
  obtain ⟨x, hc, h0, h1⟩ := hx j hj
  exact ⟨x, hg.cell hc (by simp; omega), h0, h1⟩
theorem CodeAt.below {w w' : World} {B C len : Nat} {a : Option Addr} (h : CodeAt w B a len) (hb : Below C w w') (hC : B ≤ C) : CodeAt w' B a len := by
  refine ⟨h.1, fun hl => ?_⟩
  obtain ⟨b, off, rfl, hlt, hx⟩ := h.2 hl
  refine ⟨b, off, rfl, hlt, fun j hj => ?_⟩
  obtain ⟨x, hc, h0, h1⟩ := hx j hj
  exact ⟨x, (hb.cell (p := ⟨b, off + j, none⟩) (Nat.lt_of_lt_of_le hlt hC)).trans hc, h0, h1⟩
/-- New blocks, and what turns none of the cursor's: the cursor stands. -/
theorem Cur.below {w w' : World} {g B len cap : Nat} {a : Option Addr} (h : Cur w g B a len cap) (hb : Below w.heap.size w w') : Cur w' g B a len cap := by
  obtain ⟨hB, hg, hcode, c0, ⟨i, c1, hi⟩, ⟨k, c2⟩, hf⟩ := h
  exact ⟨hB, Nat.lt_of_lt_of_le hg hb.size, hcode.below hb (by omega), (hb.cell (p := ⟨g, 0, none⟩) hg).trans c0, ⟨i, (hb.cell (p := ⟨g, 1, none⟩) hg).trans c1, hi⟩, ⟨k, (hb.cell (p := ⟨g, 2, none⟩) hg).trans c2⟩,
    fun j hj => (hb.frozen (p := ⟨g, j, none⟩) hg).trans (hf j hj)⟩
theorem Cur.seth {w : World} {g B len cap : Nat} {a : Option Addr} (h : Cur w g B a len cap) (k : Int) : Cur (w.setCell ⟨g, 2, none⟩ (.int .i64 k)) g B a len cap := by
  obtain ⟨hB, hg, hcode, c0, ⟨i, c1, hi⟩, ⟨k', c2⟩, hf⟩ := h
  exact ⟨hB, by simpa [World.setCell] using hg, hcode.gb (gb_set _ _ _ _) hB, (World.cell?_setCell_other _ _ _ _ (by simp)).trans c0, ⟨i, (World.cell?_setCell_other _ _ _ _ (by simp)).trans c1, hi⟩, ⟨k, World.cell?_setCell_same _ _ _ c2⟩,
    fun j hj => (World.frozen?_setCell _ _ _ _).trans (hf j hj)⟩
theorem Cur.seti {w : World} {g B len cap : Nat} {a : Option Addr} (h : Cur w g B a len cap) (i : Nat) (hi : i ≤ len) : Cur (w.setCell ⟨g, 1, none⟩ (.int .i64 i)) g B a len cap := by
  obtain ⟨hB, hg, hcode, c0, ⟨i', c1, _⟩, ⟨k, c2⟩, hf⟩ := h
  exact ⟨hB, by simpa [World.setCell] using hg, hcode.gb (gb_set _ _ _ _) hB, (World.cell?_setCell_other _ _ _ _ (by simp)).trans c0, ⟨i, World.cell?_setCell_same _ _ _ c1, hi⟩, ⟨k, (World.cell?_setCell_other _ _ _ _ (by simp)).trans c2⟩,
    fun j hj => (World.frozen?_setCell _ _ _ _).trans (hf j hj)⟩
theorem drewN_bel (B : Nat) (w : World) (q : Nat) : Below B w (w.drewN q) := ⟨rfl, rfl, rfl, Nat.le_refl _, fun _ _ => rfl⟩
theorem byte_more {w : World} {g B len cap i : Nat} {a : Option Addr} (h : Cur w g B a len cap) (hi : i < len) (k : Int) (q : Nat) (y : Int) (hy : y = ((i + 1 : Nat) : Int)) (x : Int) (h0 : 0 ≤ x) (h1 : x ≤ 255) :
    BytePost w g B a len cap (.returned (.int .i64 x)) (((w.setCell ⟨g, 2, none⟩ (.int .i64 k)).drewN q).setCell ⟨g, 1, none⟩ (.int .i64 y)) := by
  subst hy
  exact ⟨x, rfl, h0, h1, (((h.seth k).below (drewN_bel _ _ _)).seti (i + 1) (by omega)), gb_two (gb_two (gb_set _ _ _ _) (gb_drewN _ _ _)) (gb_set _ _ _ _)⟩
theorem byte_over2 {w : World} {g B len cap : Nat} {a : Option Addr} (h : Cur w g B a len cap) (k : Int) (q q' : Nat) (x : Int) (h0 : 0 ≤ x) (h1 : x ≤ 255) :
    BytePost w g B a len cap (.returned (.int .i64 x)) (((w.setCell ⟨g, 2, none⟩ (.int .i64 k)).drewN q).drewN q') :=
  ⟨x, rfl, h0, h1, (((h.seth k).below (drewN_bel _ _ _)).below (drewN_bel _ _ _)), gb_two (gb_two (gb_set _ _ _ _) (gb_drewN _ _ _)) (gb_drewN _ _ _)⟩

def BelowPost (w : World) (g B : Nat) (a : Option Addr) (len cap : Nat) (n : Int) (e : Ending) (w' : World) : Prop :=
  ∃ x : Int, e = .returned (.int .i64 x) ∧ 0 ≤ x ∧ (x < n ∨ x = 0) ∧ Cur w' g B a len cap ∧ w.grownBy w' (some g)
end Go.Proofs.Ytodgabdhgaglmaa
/- DrawB: The draws of the models, on: a new cursor, a text that is drawn, a long one, a choice. -/
namespace Go.Proofs.Ytodgabdhgaglmaa
set_option maxRecDepth 100000
open Go.RowKit

def NewPost (w : World) (a : Option Addr) (len cap : Nat) (e : Ending) (w' : World) : Prop :=
  ∃ g, e = .returned (.pointer (some ⟨g, 0, none⟩)) ∧ w.heap.size ≤ g ∧ Cur w' g w.heap.size a len cap ∧ Below w.heap.size w w'
def OncePost (w : World) (g B : Nat) (a : Option Addr) (len cap : Nat) (e : Ending) (w' : World) : Prop :=
  ∃ b : Bool, e = .returned (.bool b) ∧ Cur w' g B a len cap ∧ w.grownBy w' (some g)
def TextPost (w : World) (g B : Nat) (a : Option Addr) (len cap : Nat) (n : Nat) (e : Ending) (w' : World) : Prop :=
  ∃ t : ByteArray, e = .returned (.string t) ∧ t.size ≤ n ∧ Cur w' g B a len cap ∧ w.grownBy w' (some g)
def TextIs (w : World) (g B : Nat) (a : Option Addr) (len cap : Nat) (n : Nat) (e : Ending) (w' : World) : Prop :=
  ∃ t : ByteArray, e = .returned (.string t) ∧ t.size = n ∧ Cur w' g B a len cap ∧ w.grownBy w' (some g)
theorem text_step {w wr w2 w3 : World} {g B len cap : Nat} {a : Option Addr} {v v' : Value} {l : List UInt8} {x : Int} {o : Obj} (x0 : 0 ≤ x) (x1 : x ≤ 255) (hs : w.heap.size ≤ wr.heap.size) (hgw : g < w.heap.size)
    (hg : w.grownBy wr (some g)) (hg2 : wr.grownBy w2 (some g)) (hc2 : Cur w2 g B a len cap) (hown : w2.ownsRow w.heap.size 5 1 v l.length (bv l))
    (hown' : w3.ownsRow w.heap.size 5 1 v' (l.length + 1) (bv l ++ [.int .u8 x])) (hgr : (w2.alloc o).grownBy w3 v.ownBlock) :
    Cur w3 g B a len cap ∧ w.grownBy w3 (some g) ∧ w3.ownsRow w.heap.size 5 1 v' (l ++ [UInt8.ofNat x.toNat]).length (bv (l ++ [UInt8.ofNat x.toNat])) := by
  have hlt := hown.lt
  have h2s : wr.heap.size ≤ w2.heap.size := hg2.size
  have hb3 : Below w.heap.size w2 w3 := ((Below.refl _ _).alloc (by omega) o).grown hgr (by simp; omega) (fun j hj => (hlt j hj).1)
  refine ⟨?_, ⟨(hb3.os.trans hg2.os).trans hg.os, (hb3.tape.trans hg2.tape).trans hg.tape, (hb3.output.trans hg2.output).trans hg.output, by have := hb3.size; omega, fun k hk hn => (hb3.block k hk).trans ((hg2.block k (by omega) hn).trans (hg.block k hk hn))⟩, ?_⟩
  · obtain ⟨hB, hgs, hcode, c0, ⟨i, c1, hi⟩, ⟨k, c2⟩, hf⟩ := hc2
    refine ⟨hB, by have := hb3.size; omega, hcode.below hb3 (by omega), (hb3.cell (p := ⟨g, 0, none⟩) hgw).trans c0, ⟨i, (hb3.cell (p := ⟨g, 1, none⟩) hgw).trans c1, hi⟩, ⟨k, (hb3.cell (p := ⟨g, 2, none⟩) hgw).trans c2⟩, fun j hj => (hb3.frozen (p := ⟨g, j, none⟩) hgw).trans (hf j hj)⟩
  · rw [byte_of x x0 (by omega), bv_snoc] at hown'
    simpa using hown'
theorem own_gb {w w' : World} {g C : Nat} {v : Value} {l : List UInt8} (h : w.ownsRow C 5 1 v l.length (bv l)) (hg : w.grownBy w' (some g)) (hC : g < C) : w'.ownsRow C 5 1 v l.length (bv l) :=
  h.kept hg (by
    cases hv : v.ownBlock with
    | none => exact .inl rfl
    | some j => right; have := (h.lt j hv).1; simp; omega)

end Go.Proofs.Ytodgabdhgaglmaa
/- DrawP: The draws of a text and of places: what is drawn lies within its bounds; nothing that was there is turned. -/
namespace Go.Proofs.Ytodgabdhgaglmaa
set_option maxRecDepth 100000
open Go.RowKit

def SumDrawn (w : World) (e : Ending) (w' : World) : Prop := ∃ t : ByteArray, e = .returned (.string t) ∧ t.size ≤ 40 ∧ Below w.heap.size w w'
theorem infoInt : (Try.prog.info? 3).map (fun i => (i.zero, i.size, i.bytes)) = some (some (.int .i64 0), 1, 8) := by kernel_rfl
/-- Numbers, as the model holds them. -/
def iv (l : List Int) : List Value := l.map fun x => .int .i64 x
theorem row_step {w wr w2 w3 : World} {g B len cap n : Nat} {t : TypeId} {a : Option Addr} {v : Value} {vs : List Value} {o : Obj} (hs : w.heap.size ≤ wr.heap.size) (hgw : g < w.heap.size)
    (hg : w.grownBy wr (some g)) (hg2 : wr.grownBy w2 (some g)) (hc2 : Cur w2 g B a len cap) (hown : w2.ownsRow w.heap.size t 1 v n vs) (hgr : (w2.alloc o).grownBy w3 v.ownBlock) :
    Cur w3 g B a len cap ∧ w.grownBy w3 (some g) := by
  have hlt := hown.lt
  have h2s : wr.heap.size ≤ w2.heap.size := hg2.size
  have hb3 : Below w.heap.size w2 w3 := ((Below.refl _ _).alloc (by omega) o).grown hgr (by simp; omega) (fun j hj => (hlt j hj).1)
  refine ⟨?_, ⟨(hb3.os.trans hg2.os).trans hg.os, (hb3.tape.trans hg2.tape).trans hg.tape, (hb3.output.trans hg2.output).trans hg.output, by have := hb3.size; omega, fun k hk hn => (hb3.block k hk).trans ((hg2.block k (by omega) hn).trans (hg.block k hk hn))⟩⟩
  obtain ⟨hB, hgs, hcode, c0, ⟨i, c1, hi⟩, ⟨k, c2⟩, hf⟩ := hc2
  exact ⟨hB, by have := hb3.size; omega, hcode.below hb3 (by omega), (hb3.cell (p := ⟨g, 0, none⟩) hgw).trans c0, ⟨i, (hb3.cell (p := ⟨g, 1, none⟩) hgw).trans c1, hi⟩, ⟨k, (hb3.cell (p := ⟨g, 2, none⟩) hgw).trans c2⟩, fun j hj => (hb3.frozen (p := ⟨g, j, none⟩) hgw).trans (hf j hj)⟩
theorem own_gbr {w w' : World} {g C n : Nat} {t : TypeId} {v : Value} {vs : List Value} (h : w.ownsRow C t 1 v n vs) (hg : w.grownBy w' (some g)) (hC : g < C) : w'.ownsRow C t 1 v n vs :=
  h.kept hg (by
    cases hv : v.ownBlock with
    | none => exact .inl rfl
    | some j => right; have := (h.lt j hv).1; simp; omega)
/-- The places that are drawn: twelve numbers below 10000 in a block of their own. -/
def PlacesDrawn (w : World) (e : Ending) (w' : World) : Prop :=
  ∃ (gp cap : Nat) (l : List Int), e = .returned (.slice (some ⟨gp, 0, none⟩) 12 cap) ∧ w.heap.size ≤ gp ∧ gp < w'.heap.size ∧ l.length = 12 ∧ (∀ x ∈ l, 0 ≤ x ∧ x < 10000) ∧ (∀ j, j < 12 → w'.cell? ⟨gp, j, none⟩ = some (.int .i64 (l.getD j 0))) ∧ Below w.heap.size w w'
theorem places_post {w w1 w' : World} {g n : Nat} {v : Value} {l : List Int} (hw : w.heap.size ≤ w1.heap.size) (hl : l.length = 12) (hx : ∀ x ∈ l, 0 ≤ x ∧ x < 10000) (hn : n = 12) (hown : w'.ownsRow w1.heap.size 3 1 v n (iv l)) (hb1 : Below w.heap.size w w1) (hg : w.heap.size ≤ g) (hgb : w1.grownBy w' (some g)) :
    PlacesDrawn w (.returned v) w' := by
  subst hn
  have hlt := hown.lt
  have hc : ∀ g, v.ownBlock = some g → ∀ j u, (iv l)[j]? = some u → w'.cell? ((⟨g, 0, none⟩ : Addr).add j) = some u := fun g hg => hown.cells hg
  obtain ⟨h1, ⟨rfl, h0⟩ | ⟨gp, cap, cur, rfl, _⟩⟩ := hown
  · omega
  · have h2 := hlt gp rfl
    refine ⟨gp, cap, l, rfl, by omega, h2.2, hl, hx, fun j hj => ?_, hb1.trans (below_gb hgb hg hw)⟩
    have h3 := hc gp rfl j (.int .i64 (l.getD j 0)) (by simp [iv, List.getD, show j < l.length by omega])
    have e : (⟨gp, 0, none⟩ : Addr).add j = ⟨gp, j, none⟩ := by cases j <;> simp [Addr.add]
    rwa [e] at h3
theorem cell_block {w : World} {a : Addr} {v : Value} (h : w.cell? a = some v) : a.block < w.heap.size := by
  by_cases hb : a.block < w.heap.size
  · exact hb
  · unfold World.cell? at h
    rw [Array.getElem?_eq_none (by omega)] at h
    simp at h
theorem code_at {w : World} {a : Option Addr} {len cap : Nat} {zs : List Int} (hl : len ≤ 1048576)
    (h : (a = none ∧ len = 0) ∨ ∃ x, a = some x ∧ len ≤ cap ∧ zs.length = cap ∧ (∀ i, i < zs.length → w.cell? (x.add i) = some (.int .u8 (zs.getD i 0))) ∧ ∀ n ∈ zs, (Lit.int .u8 n).wf = true) : CodeAt w w.heap.size a len := by
  refine ⟨hl, fun hp => ?_⟩
  rcases h with ⟨_, h0⟩ | ⟨x, rfl, hlc, hz, hc, hw⟩
  · omega
  · obtain ⟨b, off, spot⟩ := x
    have hs : spot = none := by simpa [Addr.add] using World.cell?_spot (hc 0 (by omega))
    subst hs
    refine ⟨b, off, rfl, ?_, fun j hj => ?_⟩
    · have := cell_block (hc 0 (by omega)); simpa [Addr.add] using this
    · have h1 := hc j (by omega)
      have e : (⟨b, off, none⟩ : Addr).add j = ⟨b, off + j, none⟩ := by cases j <;> simp [Addr.add]
      rw [e] at h1
      have hm : zs.getD j 0 ∈ zs := by
        have : j < zs.length := by omega
        simp [List.getD, this]
      have := bounds_u8 (hw _ hm)
      exact ⟨_, h1, this.1, by omega⟩
end Go.Proofs.Ytodgabdhgaglmaa
/- DrPk: A text that is picked out of a row is one of it. -/
namespace Go.Proofs.Ytodgabdhgaglmaa
set_option maxRecDepth 100000
open Go.RowKit
attribute [local go_sem ↓] Go.wp_at_zero Go.wp_at_succ

/-- No byte of it is a z. -/
def noZ (t : ByteArray) : Bool := t.data.toList.all (· != 122)
theorem noZ_app (a b : ByteArray) : noZ (a ++ b) = (noZ a && noZ b) := by unfold noZ; rw [ByteArray.toList_data_append, List.all_append]
def PickPostS (P : ByteArray → Prop) (w : World) (g B : Nat) (a : Option Addr) (len cap : Nat) (e : Ending) (w' : World) : Prop :=
  ∃ x : ByteArray, e = .returned (.string x) ∧ P x ∧ Cur w' g B a len cap ∧ w.grownBy w' (some g)
/-- Texts that were laid into a new row. -/
theorem new_texts (w : World) (t : TypeId) (P : ByteArray → Prop) (L : List ByteArray) (h : ∀ y ∈ L, P y) (j : Nat) (hj : j < L.length) :
    ∃ y : ByteArray, (w.alloc (.cells (L.map Value.string).toArray t)).cell? ⟨w.heap.size, j, none⟩ = some (.string y) ∧ P y := by
  rw [World.cell?_alloc_mark]
  exact ⟨L[j], by simp [hj], h _ (List.getElem_mem hj)⟩
end Go.Proofs.Ytodgabdhgaglmaa
/- DrPth: The draws of paths. -/
namespace Go.Proofs.Ytodgabdhgaglmaa
set_option maxRecDepth 100000
open Go.RowKit
attribute [local go_sem ↓] Go.wp_at_zero Go.wp_at_succ

def PathPost (m : Nat) (w : World) (g B : Nat) (a : Option Addr) (len cap : Nat) (e : Ending) (w' : World) : Prop :=
  ∃ t : ByteArray, e = .returned (.string t) ∧ (t.size ≤ m ∧ noZ t = true) ∧ Cur w' g B a len cap ∧ w.grownBy w' (some g)
theorem any_texts (w : World) (j : Nat) (hj : j < 11) : ∃ y : ByteArray, (w.alloc (.cells #[.string ⟨#[]⟩, .string ⟨#[47]⟩, .string ⟨#[97]⟩, .string ⟨#[47, 65]⟩, .string ⟨#[47, 47]⟩, .string ⟨#[47, 97, 47]⟩, .string ⟨#[47, 97, 47, 47, 98]⟩, .string ⟨#[47, 97, 47, 98, 47, 99, 47, 97]⟩, .string ⟨#[47, 97, 47, 98, 47, 99, 47, 97, 47, 98]⟩, .string ⟨#[47, 97, 98, 99, 100, 101, 102, 103, 104]⟩, .string ⟨#[47, 97, 98, 99, 100, 101, 102, 103, 104, 105]⟩] 9)).cell? ⟨w.heap.size, j, none⟩ = some (.string y) ∧ (y.size ≤ 16 ∧ noZ y = true) :=
  new_texts w 9 (fun y => y.size ≤ 16 ∧ noZ y = true) [⟨#[]⟩, ⟨#[47]⟩, ⟨#[97]⟩, ⟨#[47, 65]⟩, ⟨#[47, 47]⟩, ⟨#[47, 97, 47]⟩, ⟨#[47, 97, 47, 47, 98]⟩, ⟨#[47, 97, 47, 98, 47, 99, 47, 97]⟩, ⟨#[47, 97, 47, 98, 47, 99, 47, 97, 47, 98]⟩, ⟨#[47, 97, 98, 99, 100, 101, 102, 103, 104]⟩, ⟨#[47, 97, 98, 99, 100, 101, 102, 103, 104, 105]⟩] (by decide) j hj
end Go.Proofs.Ytodgabdhgaglmaa
