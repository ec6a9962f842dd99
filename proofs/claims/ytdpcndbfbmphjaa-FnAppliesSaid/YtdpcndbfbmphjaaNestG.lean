/- A row of rows of numbers that is made row by row, while one block (a cursor) is turned. -/
import Derived.Test.YtdpcndbfbmphjaaNestF
import Derived.Test.YtdpcndbfbmphjaaDraw
namespace Go.Proofs.Ytdpcndbfbmphjaa
open Go.RowKit

/-- A world's first blocks. -/
def cutW (w : World) (n : Nat) : World := { w with heap := w.heap.extract 0 n }
theorem cutW_size {w : World} {n : Nat} (h : n ≤ w.heap.size) : (cutW w n).heap.size = n := by simp [cutW]; omega
theorem cutW_below {w : World} {n : Nat} (h : n ≤ w.heap.size) : Below (cutW w n).heap.size (cutW w n) w := by
  rw [cutW_size h]
  refine ⟨rfl, rfl, rfl, by rw [cutW_size h]; exact h, fun k hk => ?_⟩
  show w.heap[k]? = (w.heap.extract 0 n)[k]?
  rw [Array.getElem?_extract]
  simp
  intro h2
  omega
/-- Where the making of a row of rows stands, while block g (older) is turned. -/
structure BJ (w wr : World) (g : Nat) (v : Value) (ts : List SR) : Prop where
  own : wr.ownsRow w.heap.size 33 1 v ts.length (svs ts)
  rows : ∀ s ∈ ts, ∃ b, s.loc = some ⟨b, 0, none⟩ ∧ w.heap.size ≤ b ∧ WCells wr b (ics s.row) ∧ s.row.length ≤ s.cap ∧ s.row ≠ []
  apart : (ts.map SR.loc).Nodup
  gb : w.grownBy wr (some g)
theorem BJ.bi {w wr : World} {g : Nat} {v : Value} {ts : List SR} (h : BJ w wr g v ts) : BI (cutW wr w.heap.size) wr v ts := by
  have hs := h.gb.size
  refine ⟨by rw [cutW_size hs]; exact h.own, fun s hs' => by rw [cutW_size hs]; exact h.rows s hs', h.apart, cutW_below hs⟩
theorem BJ.of {w wr w0 : World} {g : Nat} {v : Value} {ts : List SR} (h : BI w0 wr v ts) (e : w0.heap.size = w.heap.size) (hg : w.grownBy wr (some g)) : BJ w wr g v ts :=
  ⟨by rw [← e]; exact h.own, fun s hs => by rw [← e]; exact h.rows s hs, h.apart, hg⟩
theorem BJ.drawn {w wr w' : World} {g : Nat} {v : Value} {ts : List SR} (h : BJ w wr g v ts) (hg : wr.grownBy w' (some g)) (hgw : g < w.heap.size) : BJ w w' g v ts :=
  ⟨h.own.kept hg (.inr fun e => by have := (h.own.lt g e).1; omega), fun s hs => by
    obtain ⟨b, e, q1, q2, q3⟩ := h.rows s hs
    exact ⟨b, e, q1, q2.apart hg (by omega), q3⟩, h.apart, gb_two h.gb hg⟩
theorem BJ.fin {w wr : World} {g : Nat} {v : Value} {ts : List SR} {X : List (List Int)} (h : BJ w wr g v ts) (hX : rws ts = X) : MAns wr v X w.heap.size wr.heap.size := by
  have := h.bi.fin hX
  rw [cutW_size h.gb.size] at this
  exact this
theorem BJ.append {w wr w1 : World} {g : Nat} {v v' : Value} {ts : List SR} {o : Obj} {b : Nat} {row : List Int} {cap : Nat} (h : BJ w wr g v ts) (hb : w.heap.size ≤ b) (hrow : WCells wr b (ics row)) (hne : row ≠ []) (hcap : row.length ≤ cap)
    (hv : ∀ q, v.ownBlock = some q → q ≠ b) (hnew : ∀ s ∈ ts, s.loc ≠ some ⟨b, 0, none⟩)
    (hown : w1.ownsRow w.heap.size 33 1 v' (ts.length + 1) (svs ts ++ [.slice (some ⟨b, 0, none⟩) row.length cap])) (hg : (wr.alloc o).grownBy w1 v.ownBlock) : BJ w w1 g v' (ts ++ [SR.mk (some ⟨b, 0, none⟩) row cap]) := by
  have hs := cutW_size h.gb.size
  have := h.bi.append (cap := cap) (by rw [hs]; exact hb) hrow hne hcap hv hnew (by rw [hs]; exact hown) hg
  refine BJ.of this hs ?_
  have h1 : w.grownBy (wr.alloc o) (some g) := gb_two h.gb (gb_below ((Below.refl wr.heap.size wr).alloc (Nat.le_refl _) o))
  refine ⟨hg.os.trans h1.os, hg.tape.trans h1.tape, hg.output.trans h1.output, Nat.le_trans h1.size hg.size, fun k hk hkg => ?_⟩
  refine (hg.block k (Nat.lt_of_lt_of_le hk h1.size) (fun e => ?_)).trans (h1.block k hk hkg)
  have := (h.own.lt k e.symm).1
  omega
end Go.Proofs.Ytdpcndbfbmphjaa
