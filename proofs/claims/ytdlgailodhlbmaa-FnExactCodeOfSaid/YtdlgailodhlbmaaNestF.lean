/- A row of rows of numbers that is made row by row, by append. -/
import Derived.Test.YtdlgailodhlbmaaNestE
namespace Go.Proofs.Ytdlgailodhlbmaa
open Go.RowKit

/-- A row of numbers is not the row of rows. -/
theorem row_apart {w : World} {b B t n : Nat} {v : Value} {row : List Int} {ts : List SR} (h : WCells w b (ics row)) (hr : row ≠ []) (ho : w.ownsRow B t 1 v n (svs ts)) (hts : ts ≠ []) : v.ownBlock ≠ some b := by
  intro e
  have hc := ho.cells e
  obtain ⟨x, r, rfl⟩ := List.exists_cons_of_ne_nil hr
  obtain ⟨s, t', rfl⟩ := List.exists_cons_of_ne_nil hts
  have h1 := (h.2 0 (.int .i64 x) rfl).1
  have h2 := hc 0 (srv s) rfl
  have e2 : (⟨b, 0, none⟩ : Addr).add 0 = ⟨b, 0, none⟩ := by simp [Addr.add]
  rw [e2, h1] at h2
  simp [srv] at h2
/-- Where the making of a row of rows stands. -/
structure BI (w wr : World) (v : Value) (ts : List SR) : Prop where
  own : wr.ownsRow w.heap.size 32 1 v ts.length (svs ts)
  rows : ∀ s ∈ ts, ∃ b, s.loc = some ⟨b, 0, none⟩ ∧ w.heap.size ≤ b ∧ WCells wr b (ics s.row) ∧ s.row.length ≤ s.cap ∧ s.row ≠ []
  apart : (ts.map SR.loc).Nodup
  bel : Below w.heap.size w wr
theorem BI.start (w : World) {wr : World} {v : Value} (ho : wr.ownsRow w.heap.size 32 1 v 0 []) (hb : Below w.heap.size w wr) : BI w wr v [] := ⟨ho, by simp, List.nodup_nil, hb⟩
theorem BI.below {w wr w' : World} {v : Value} {ts : List SR} (h : BI w wr v ts) (hb : Below wr.heap.size wr w') : BI w w' v ts :=
  ⟨h.own.kept (row := none) ⟨hb.os, hb.tape, hb.output, hb.size, fun k hk _ => hb.block k hk⟩ (Classical.em _), fun s hs => by
    obtain ⟨b, e, q1, q2, q3⟩ := h.rows s hs
    exact ⟨b, e, q1, q2.below hb q2.1, q3⟩, h.apart, h.bel.trans (hb.mono h.bel.size)⟩
/-- A block beyond is turned. -/
theorem BI.other {w wr w' : World} {v : Value} {ts : List SR} {B g : Nat} (h : BI w wr v ts) (hg : wr.grownBy w' (some g)) (hB : B ≤ g) (ho : ∀ q, v.ownBlock = some q → q < B) (hr : ∀ s ∈ ts, ∀ b, s.loc = some ⟨b, 0, none⟩ → b < B) (hw : w.heap.size ≤ B) (hs : w.heap.size ≤ wr.heap.size) : BI w w' v ts := by
  refine ⟨h.own.kept hg (.inr fun e => by have := ho g e; omega), fun s hs' => ?_, h.apart, h.bel.grown hg hs (fun k e => by cases e; omega)⟩
  obtain ⟨b, e, q1, q2, q3⟩ := h.rows s hs'
  exact ⟨b, e, q1, q2.apart hg (by have := hr s hs' b e; omega), q3⟩
theorem BI.append {w wr w1 : World} {v v' : Value} {ts : List SR} {o : Obj} {b : Nat} {row : List Int} {cap : Nat} (h : BI w wr v ts) (hb : w.heap.size ≤ b) (hrow : WCells wr b (ics row)) (hne : row ≠ []) (hcap : row.length ≤ cap)
    (hv : ∀ q, v.ownBlock = some q → q ≠ b) (hnew : ∀ s ∈ ts, s.loc ≠ some ⟨b, 0, none⟩)
    (hown : w1.ownsRow w.heap.size 32 1 v' (ts.length + 1) (svs ts ++ [.slice (some ⟨b, 0, none⟩) row.length cap])) (hg : (wr.alloc o).grownBy w1 v.ownBlock) : BI w w1 v' (ts ++ [SR.mk (some ⟨b, 0, none⟩) row cap]) := by
  have keep : ∀ {c : Nat} {L : List Value}, WCells wr c L → (∀ q, v.ownBlock = some q → q ≠ c) → WCells w1 c L := fun {c L} hc hq => by
    have h1 : WCells (wr.alloc o) c L := hc.below ((Below.refl wr.heap.size wr).alloc (Nat.le_refl _) o) hc.1
    refine ⟨Nat.lt_of_lt_of_le h1.1 hg.size, fun i u hu => ?_⟩
    have hbk : w1.heap[c]? = (wr.alloc o).heap[c]? := hg.block c h1.1 (fun e => hq c e.symm rfl)
    exact ⟨(World.cell?_of_block (a := ⟨c, i, none⟩) hbk).trans (h1.2 i u hu).1, (World.frozen?_of_block (a := ⟨c, i, none⟩) hbk).trans (h1.2 i u hu).2⟩
  refine ⟨?_, fun s hs => ?_, ?_, (h.bel.alloc h.bel.size o).grown hg (by have := h.bel.size; simp; omega) (fun k e => (h.own.lt k e).1)⟩
  · have e : svs (ts ++ [SR.mk (some ⟨b, 0, none⟩) row cap]) = svs ts ++ [.slice (some ⟨b, 0, none⟩) row.length cap] := by simp [svs, srv]
    rw [e, List.length_append]
    exact hown
  · rcases List.mem_append.1 hs with h1 | h1
    · obtain ⟨c, e, q1, q2, q3, q4⟩ := h.rows s h1
      refine ⟨c, e, q1, keep q2 (fun q hq => ?_), q3, q4⟩
      have := row_apart q2 q4 h.own (List.ne_nil_of_mem h1)
      intro e2; subst e2; exact this hq
    · simp at h1
      subst h1
      exact ⟨b, rfl, hb, keep hrow hv, hcap, hne⟩
  · rw [List.map_append, List.nodup_append]
    refine ⟨h.apart, by simp, fun l hl l' hl' => ?_⟩
    obtain ⟨s, hs, rfl⟩ := List.mem_map.1 hl
    simp only [List.map_cons, List.map_nil, List.mem_singleton] at hl'
    subst hl'
    exact hnew s hs
theorem BI.fin {w wr : World} {v : Value} {ts : List SR} {X : List (List Int)} (h : BI w wr v ts) (hX : rws ts = X) : MAns wr v X w.heap.size wr.heap.size := by
  have hlt := h.own.lt
  have hown := h.own
  obtain ⟨_, ⟨rfl, h0⟩ | ⟨g, cap, cur, rfl, hB, hcur, hn, _⟩⟩ := hown
  · have : ts = [] := List.eq_nil_of_length_eq_zero h0
    subst this
    exact ⟨none, 0, [], rfl, hX, Nat.le_refl _, .inl rfl⟩
  · refine ⟨_, cap, ts, rfl, hX, hn, ?_⟩
    by_cases hts : ts = []
    · exact .inl hts
    · refine .inr ⟨g, rfl, own_wcells h.own, hB, (hlt g rfl).2, fun s hs => ?_, h.apart⟩
      obtain ⟨b, e, q1, q2, q3, q4⟩ := h.rows s hs
      refine ⟨b, e, q1, q2.1, fun eb => ?_, q2, q3⟩
      subst eb
      exact row_apart q2 q4 h.own hts rfl
end Go.Proofs.Ytdlgailodhlbmaa
