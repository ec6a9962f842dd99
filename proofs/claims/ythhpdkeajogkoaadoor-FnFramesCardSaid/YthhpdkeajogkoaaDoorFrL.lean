/- The walk of the law on records that come back from their frames, also where a file is cut. -/
import Derived.Test.YthhpdkeajogkoaaDoorFrN
import Derived.Test.YthhpdkeajogkoaaDoorFrJ
import Derived.Test.YthhpdkeajogkoaaDoorFrT
import Derived.Test.YthhpdkeajogkoaaDoorDrawP
import Derived.Test.YthhpdkeajogkoaaDoorDrawC
import Derived.Deep.CutRange
namespace Go.Proofs.YthhpdkeajogkoaaDoor
open Go.RowKit
attribute [local go_sem ↓] Go.wp_at_zero Go.wp_at_succ
attribute [local irreducible] frameB W.fbs

theorem drew_bel (B : Nat) (w : World) (q : Nat) : Below B w (w.drewN q) := ⟨rfl, rfl, rfl, Nat.le_refl _, fun _ _ => rfl⟩
theorem RowAt.srw {w : World} {B : Nat} {a : Option Addr} {xs : List ByteArray} {cap : Nat} (h : RowAt w B a xs cap) : SRow w a xs := fun hp => by
  rcases h.2 with e | ⟨g, rfl, _, hw⟩
  · subst e; simp at hp
  · exact hw.srow hp
theorem SRow.take {w : World} {g : Nat} {xs : List ByteArray} (h : WRow w g xs) (m : Nat) : SRow w (some ⟨g, 0, none⟩) (xs.take m) := fun _ => ⟨g, rfl, h.1, fun j hj => by
  have h1 := (h.2 j (by simp at hj; omega)).1
  rw [h1]
  have : j < m := by simp at hj; omega
  simp [List.getD, this]⟩
/-- Three records in a row of their own. -/
theorem wrow_three (w : World) (a b c : ByteArray) (t : TypeId) : WRow (w.alloc (.cells #[.string a, .string b, .string c] t)) w.heap.size [a, b, c] := by
  refine ⟨by simp, fun j hj => ?_⟩
  match j, hj with
  | 0, _ | 1, _ | 2, _ => exact ⟨by rw [World.cell?_alloc_mark]; rfl, by rw [World.frozen?_alloc_mark]; rfl⟩
/-- The ends of the first frames. -/
def endsTo (l : List ByteArray) (k : Nat) : List Int := (List.range (k + 1)).map fun j => ((W.fbs (l.take j)).length : Int)
theorem endsTo_succ (l : List ByteArray) (k : Nat) : endsTo l (k + 1) = endsTo l k ++ [((W.fbs (l.take (k + 1))).length : Int)] := by
  unfold endsTo
  rw [List.range_succ (n := k + 1), List.map_append]
  rfl
theorem fbs_step {l : List ByteArray} {k : Nat} {f : ByteArray} (hk : k < l.length) (hf : f.data.toList = W.fbs (l.take k)) : (f ++ frameB (l.getD k ⟨#[]⟩)).data.toList = W.fbs (l.take (k + 1)) := by
  rw [ByteArray.toList_data_append, hf, List.take_succ_eq_append_getElem hk, W.fbs_snoc]
  simp [List.getD, hk]
theorem fbs_small {l : List ByteArray} (hl : ∀ r ∈ l, 1 ≤ r.size ∧ r.size ≤ 900) : (W.fbs l).length ≤ 2000 * l.length := by
  induction l with
  | nil => unfold W.fbs; simp
  | cons r l ih =>
    have h1 := ih (fun x hx => hl x (by simp [hx]))
    have h2 := W.frameB_le r
    have h3 := hl r (by simp)
    rw [W.fbs_cons, List.length_append, W.frameB_len, List.length_cons]
    omega
theorem fbs_take_small {l : List ByteArray} (hl : ∀ r ∈ l, 1 ≤ r.size ∧ r.size ≤ 900) (h3 : l.length = 3) (k : Nat) : (W.fbs (l.take k)).length ≤ 6000 := by
  have h := fbs_small (l := l.take k) (fun r hr => hl r (List.mem_of_mem_take hr))
  have : (l.take k).length ≤ 3 := by simp; omega
  omega
/-- Where the loop of the law stands. -/
structure FrLoop (l : List ByteArray) (gl B : Nat) (w3 wr : World) (v : Value) (k : Nat) (f : ByteArray) : Prop where
  bytes : f.data.toList = W.fbs (l.take k)
  own : wr.ownsRow B 3 1 v (k + 1) (iv (endsTo l k))
  row : WRow wr gl l
  bel : Below w3.heap.size w3 wr
theorem FrLoop.below {l : List ByteArray} {gl B k : Nat} {w3 wr w' : World} {v : Value} {f : ByteArray} (h : FrLoop l gl B w3 wr v k f) (hb : Below wr.heap.size wr w') : FrLoop l gl B w3 w' v k f :=
  ⟨h.bytes, h.own.kept (row := none) (gb_below hb) (Classical.em _), h.row.below hb h.row.1, h.bel.trans (hb.mono h.bel.size)⟩
theorem FrLoop.more {l : List ByteArray} {gl B k : Nat} {w3 wr w1 : World} {v v' : Value} {f : ByteArray} {o : Obj} {n : Nat} (h : FrLoop l gl B w3 wr v k f) (hk : k < l.length) (hgl : gl < B) (hB : w3.heap.size ≤ B) (hBr : B ≤ wr.heap.size)
    (hn : n = (f ++ frameB (l.getD k ⟨#[]⟩)).size) (hown : w1.ownsRow B 3 1 v' (k + 1 + 1) (iv (endsTo l k) ++ [.int .i64 (n : Int)])) (hg : (wr.alloc o).grownBy w1 v.ownBlock) :
    FrLoop l gl B w3 w1 v' (k + 1) (f ++ frameB (l.getD k ⟨#[]⟩)) := by
  have hb := fbs_step hk h.bytes
  have hnb : ∀ j, v.ownBlock = some j → B ≤ j := fun j hj => (h.own.lt j hj).1
  refine ⟨hb, ?_, ⟨Nat.lt_of_lt_of_le (by have := h.row.1; simp; omega) hg.size, fun j hj => ?_⟩, (h.bel.alloc h.bel.size o).grown hg (by have := h.bel.size; simp; omega) (fun j hj => Nat.le_trans hB (hnb j hj))⟩
  · rw [endsTo_succ, ← hb]
    have e : ((f ++ frameB (l.getD k ⟨#[]⟩)).data.toList.length : Int) = (n : Int) := by rw [hn]; rfl
    rw [e]
    simpa [iv] using hown
  · have hbl : Below B wr w1 := ((Below.refl B wr).alloc hBr o).grown hg (by simp; omega) hnb
    exact ⟨(hbl.cell (p := ⟨gl, j, none⟩) hgl).trans (h.row.2 j hj).1, (hbl.frozen (p := ⟨gl, j, none⟩) hgl).trans (h.row.2 j hj).2⟩
theorem ends_cells {wr : World} {B : Nat} {v : Value} {r0 r1 r2 : ByteArray} (h : wr.ownsRow B 3 1 v (3 + 1) (iv (endsTo [r0, r1, r2] 3))) :
    ∃ ge cap, v = .slice (some ⟨ge, 0, none⟩) 4 cap ∧ ge < wr.heap.size ∧ wr.cell? ⟨ge, 0, none⟩ = some (.int .i64 0) ∧ wr.cell? ⟨ge, 1, none⟩ = some (.int .i64 ((frameB r0).size : Int)) ∧
      wr.cell? ⟨ge, 2, none⟩ = some (.int .i64 (((frameB r0).size + (frameB r1).size : Nat) : Int)) ∧ wr.cell? ⟨ge, 3, none⟩ = some (.int .i64 (((frameB r0).size + (frameB r1).size + (frameB r2).size : Nat) : Int)) := by
  obtain ⟨ge, cap, rfl⟩ := ownsRow_succ h
  have hc : ∀ j u, (iv (endsTo [r0, r1, r2] 3))[j]? = some u → wr.cell? ((⟨ge, 0, none⟩ : Addr).add j) = some u := h.cells rfl
  have l0 : (W.fbs ([] : List ByteArray)).length = 0 := by unfold W.fbs; rfl
  have l1 : (W.fbs [r0]).length = (frameB r0).size := by rw [W.fbs_cons, List.length_append, W.frameB_len, l0]; omega
  have l2 : (W.fbs [r0, r1]).length = (frameB r0).size + (frameB r1).size := by rw [W.fbs_cons, W.fbs_cons, List.length_append, List.length_append, W.frameB_len, W.frameB_len, l0]; omega
  have l3 : (W.fbs [r0, r1, r2]).length = (frameB r0).size + (frameB r1).size + (frameB r2).size := by rw [W.fbs_cons, W.fbs_cons, W.fbs_cons, List.length_append, List.length_append, List.length_append, W.frameB_len, W.frameB_len, W.frameB_len, l0]; omega
  have e : endsTo [r0, r1, r2] 3 = [(0 : Int), ((frameB r0).size : Int), (((frameB r0).size + (frameB r1).size : Nat) : Int), (((frameB r0).size + (frameB r1).size + (frameB r2).size : Nat) : Int)] := by
    unfold endsTo
    show [((W.fbs ([] : List ByteArray)).length : Int), ((W.fbs [r0]).length : Int), ((W.fbs [r0, r1]).length : Int), ((W.fbs [r0, r1, r2]).length : Int)] = _
    rw [l0, l1, l2, l3]; rfl
  rw [e] at hc
  refine ⟨ge, cap, rfl, (h.lt ge rfl).2, ?_, ?_, ?_, ?_⟩
  · exact hc 0 _ rfl
  · exact hc 1 _ rfl
  · exact hc 2 _ rfl
  · exact hc 3 _ rfl
theorem unf_of {f : ByteArray} {L : List (ByteArray × Nat)} (h : W.framesOf f = L) (w : World) (ht : SumTab w) :
    Calls Tryd.prog 10 #[.string f] w fun e w' => ∃ a cap, e = .returned (.tuple #[.slice a (W.recsOf L).length cap, .int .i64 (W.endOf L : Nat)]) ∧ RowAt w' w.heap.size a (W.recsOf L) cap ∧ Below w.heap.size w w' := by
  have := implUnframe f w ht
  unfold UnfPost at this
  rw [h] at this
  exact this
end Go.Proofs.YthhpdkeajogkoaaDoor
