/- Texts of ours, laid one behind the other: TShelf, SgO, TTwB. -/
import Derived.Test.YtfhcpehfmecpjaaPk17
import Derived.Shelf.LaysM
import Derived.Shelf.Strconv.Clone
set_option linter.unusedVariables false
set_option linter.unusedSimpArgs false
/- The library's functions that this seat's code calls: their contracts, as the guide's shelf lays them. -/
namespace Go.Proofs
open Go.Shelf
def Tw.laysM316_ren : Go.Shelf.Ren := ⟨fun | 316 => 32 | n => n, fun | 9 => 9 | 3 => 3 | 4 => 4 | 37 => 22 | 0 => 0 | 127 => 61 | 5 => 5 | n => n, fun | n => n⟩
theorem Tw.laysM316 : Go.Proofs.LaysM.n316 Tw.prog Tw.laysM316_ren := {
  mixed := by kernel_rfl
  f316 := Tw.func32.trans (congrArg some (by kernel_rfl))
  t0 := Tw.underlying0
  a0 := Tw.isAgg0
  z0 := Tw.sizeOf0
  v0 := Tw.zeroValue0
  t3 := Tw.underlying3
  a3 := Tw.isAgg3
  z3 := Tw.sizeOf3
  v3 := Tw.zeroValue3
  t4 := Tw.underlying4
  a4 := Tw.isAgg4
  z4 := Tw.sizeOf4
  v4 := Tw.zeroValue4
  t9 := Tw.underlying9
  a9 := Tw.isAgg9
  z9 := Tw.sizeOf9
  v9 := Tw.zeroValue9
  t37 := Tw.underlying22
  a37 := Tw.isAgg22
  z37 := Tw.sizeOf22
  v37 := Tw.zeroValue22
  t127 := Tw.underlying61
  a127 := Tw.isAgg61
  z127 := Tw.sizeOf61
  v127 := Tw.zeroValue61
  t5 := Tw.underlying5
  a5 := Tw.isAgg5
  z5 := Tw.sizeOf5
  v5 := Tw.zeroValue5
  i0 := by kernel_rfl
  i3 := by kernel_rfl
  i4 := by kernel_rfl
  i5 := by kernel_rfl
  i9 := by kernel_rfl
  i37 := by kernel_rfl
  i127 := by kernel_rfl }
open Go.RowKit in
theorem Tw.stringslite_Clone (s : ByteArray) (w : World) (hlim : s.size ≤ 281474976710656) :
    Calls Tw.prog 32 #[.string s] w fun e w' => e = .returned (.string s) ∧ Below w.heap.size w w' := Any.stringslite_Clone Tw.laysM316 s w hlim
end Go.Proofs
/- A receive of two results, and the look at its flag, as one region: laws for the walk. -/
namespace Go.Proofs.Ytfhcpehfmecpjaa
open Go.Conc

/-- What is known of such a region. -/
structure RcReg (P : Program) (ops : Array Oper) (slot pair flag : Nat) (z : Value) : Prop where
  size : ops.size = 2
  op0 : ∃ o ct el d, ops[0]? = some o ∧ o.guard = none ∧ o.dst = some pair ∧ o.op = .recv ct (.tmp slot) true ∧ (∀ w es, (underlying ct).runT P w es = (.ok (.chan d el) w, es)) ∧ ∀ w es, (zeroValue el).runT P w es = (.ok z w, es)
  op1 : ∃ o, ops[1]? = some o ∧ o.guard = none ∧ o.dst = some flag ∧ o.op = .extract (.tmp pair) 1
section
variable {P : Program} {ops : Array Oper} {slot pair flag id : Nat} {z : Value} {a : Act} {w : World} {Q : Exit → Act → World → Prop} {c cap s r : Nat} {tm : Bool}
theorem rc_comm (h : RcReg P ops slot pair flag z) (hs : a.eval (.tmp slot) = .chan (some c)) (b : Frame) (l : List Nat) (k : List Item) (cs : List Frame) (v : World) : stepG P true (G (b.at a (.inRegion ops (0 :: l) :: k)) cs) v = .comm (G (b.at a (.inRegion ops (0 :: l) :: k)) cs) #[rcase c z] true (.recv true) v #[] := by
  obtain ⟨o, ct, el, d, h1, h2, h3, h4, hu, hz⟩ := h.op0
  have hw : Region.wanted o (yielded ops a.tmps) = true := by unfold Region.wanted; rw [h2]
  have e : (execOp (b.at a (.inRegion ops (0 :: l) :: k)).eval o).runT P v #[] = (.ok (.comm #[rcase c z] true (.recv true)) v, #[]) := by
    unfold execOp
    rw [h4]
    have e1 : ∀ {α β : Type} (x : Sem α) (F : α → Sem β), (x >>= F) = x.bind F := fun _ _ => rfl
    have hs' : (b.at a (.inRegion ops (0 :: l) :: k)).eval (.tmp slot) = .chan (some c) := by rw [Frame.eval_at]; exact hs
    simp only [e1, Sem.runT_bind', hu, hz, hs']
    rfl
  show stepG P true (Gr (b.at a (.inRegion ops (0 :: l) :: k)) cs) v = _
  rw [step_op (fr := b.at a (.inRegion ops (0 :: l) :: k)) rfl rfl rfl h1 hw]
  simp [-Sem.runT_eq, stepG.apply, e, GStep.after, seen, G]
theorem rc_look (h : RcReg P ops slot pair flag z) {x : Value} {f : Bool} (hx : a.eval (.tmp pair) = .tuple #[x, .bool f]) (b : Frame) (k : List Item) (cs : List Frame) (v : World) : step P (lone (b.at a (.inRegion ops [1] :: k)) cs v) = .next (lone (b.at (a.put (some flag) (.bool f)) (.inRegion ops [] :: k)) cs v) := by
  obtain ⟨o, h1, h2, h3, h4⟩ := h.op1
  have hw : Region.wanted o (yielded ops a.tmps) = true := by unfold Region.wanted; rw [h2]
  refine lone_step (es := #[]) ?_
  have e : (execOp (b.at a (.inRegion ops [1] :: k)).eval o).runT P v #[] = (.ok (.value (.bool f)) v, #[]) := by
    unfold execOp
    rw [h4]
    have hx' : (b.at a (.inRegion ops [1] :: k)).eval (.tmp pair) = .tuple #[x, .bool f] := by rw [Frame.eval_at]; exact hx
    simp only [hx']
    rfl
  rw [step_op (fr := b.at a (.inRegion ops [1] :: k)) rfl rfl rfl h1 hw]
  simp [-Sem.runT_eq, stepG.apply, e, GStep.after, seen, Frame.finish_at, h1, h3]
theorem wp_take (h : RcReg P ops slot pair flag z) (hs : a.eval (.tmp slot) = .chan (some c)) (hp : pair < a.tmps.size) {v : Value} {vs : List Value} {cl : Bool} (hc : w.heap[c]? = some (.chan cap (v :: vs).toArray cl s r tm))
    (hQ : Q .normal ((a.put (some pair) (.tuple #[v, .bool true])).put (some flag) (.bool true)) (w.setChan c cap vs.toArray cl s (r + 1) tm)) : (Code.region id ops false).wp P Q a w := by
  intro b k cs
  refine ⟨.normal, _, _, hQ, ?_⟩
  refine .head step_region ?_
  rw [h.size, show List.range 2 = [0, 1] from rfl]
  obtain ⟨o, ct, el, d, h1, h2, h3, h4, hu, hz⟩ := h.op0
  have e := step_lone_recv_buf true (rc_comm h hs b [1] k cs w) hc (by simp)
  refine .head (m₁ := lone (b.at (a.put (some pair) (.tuple #[v, .bool true])) (.inRegion ops [1] :: k)) cs (w.setChan c cap vs.toArray cl s (r + 1) tm)) ?_ (.head (rc_look h (x := v) (f := true) ?_ b k cs _) (.one step_region_end))
  · rw [lone_eq_solo, e, Frame.finish_at]
    simp [h1, h3, got, lone_eq_solo]
  · simp [Act.eval, Act.put, hp]
theorem wp_shut (h : RcReg P ops slot pair flag z) (hs : a.eval (.tmp slot) = .chan (some c)) (hp : pair < a.tmps.size) (hc : w.heap[c]? = some (.chan cap #[] true s r tm))
    (hQ : Q .normal ((a.put (some pair) (.tuple #[z, .bool false])).put (some flag) (.bool false)) w) : (Code.region id ops false).wp P Q a w := by
  intro b k cs
  refine ⟨.normal, _, _, hQ, ?_⟩
  refine .head step_region ?_
  rw [h.size, show List.range 2 = [0, 1] from rfl]
  obtain ⟨o, ct, el, d, h1, h2, h3, h4, hu, hz⟩ := h.op0
  have e := step_lone_recv_shut true (rc_comm h hs b [1] k cs w) hc
  refine .head (m₁ := lone (b.at (a.put (some pair) (.tuple #[z, .bool false])) (.inRegion ops [1] :: k)) cs w) ?_ (.head (rc_look h (x := z) (f := false) ?_ b k cs _) (.one step_region_end))
  · rw [lone_eq_solo, e, Frame.finish_at]
    simp [h1, h3, got, lone_eq_solo]
  · simp [Act.eval, Act.put, hp]
end
end Go.Proofs.Ytfhcpehfmecpjaa
/- Over the twin: the cells as they come out of the channel; what the twin's cells tells. -/
namespace Go.Proofs.YtfhcpehfmecpjaaT
open Go.RowKit
open Go.Proofs.Ytfhcpehfmecpjaa (cellV cellsF Rn Tend twin_good tw tw24 cellsT RcReg wp_take wp_shut)

/-- The cells of the first n bytes from byte i on, plain. -/
def cellsK (k n : Nat) : Nat → Nat → List Value
  | 0, _ => []
  | f + 1, i => if i < n then cellV (i : Nat) (min (i + 4) n : Nat) (unitAt k i : Nat) (placeIn k i : Nat) :: cellsK k n f (i + 4) else []
theorem cells_is {s : Int} (hs : schOk s = true) {n : Nat} (hn : n ≤ 32) : ∀ (f i : Nat), i + 4 * f ≤ 60 → cellsF s n f i = cellsK (schK s) n f i
  | 0, _, _ => rfl
  | f + 1, i, h => by
    rw [cellsF, cellsK]
    by_cases e : i < n
    · rw [if_pos e, if_pos e, cells_is hs hn f (i + 4) (by omega)]
      obtain ⟨p1, p2⟩ := Go.Proofs.Ytfhcpehfmecpjaa.placeX_is (s := s) (i := i) hs (by omega)
      rw [p1, p2]
      rfl
    · rw [if_neg e, if_neg e]
theorem unit_same {k i d : Nat} (hk : k = 2 ∨ k = 3 ∨ k = 4) (h4 : i % 4 = 0) (hd : d < 4) : unitAt k (i + d) = unitAt k i := by
  unfold unitAt
  rcases hk with rfl | rfl | rfl <;> omega
theorem place_same {k i d : Nat} (hk : k = 2 ∨ k = 3 ∨ k = 4) (h4 : i % 4 = 0) (hd : d < 4) : placeIn k (i + d) = placeIn k i + d := by
  unfold placeIn
  rcases hk with rfl | rfl | rfl <;> omega
theorem ext_more {t : ByteArray} {i d : Nat} (h : i + d < t.size) (x : ByteArray) : (x ++ t.extract i (i + d)) ++ t.extract (i + d) (i + d + 1) = x ++ t.extract i (i + d + 1) := by
  apply ByteArray.ext
  simp [ByteArray.data_extract]
theorem cut_cell {k : Nat} (hk : k = 2 ∨ k = 3 ∨ k = 4) {t : ByteArray} {i : Nat} (h4 : i % 4 = 0) : ∀ d, d ≤ 4 → i + d ≤ t.size → (cutL k t i).set (unitAt k i) ((cutL k t i).getD (unitAt k i) ⟨#[]⟩ ++ t.extract i (i + d)) = cutL k t (i + d)
  | 0, _, _ => by
    have e : (cutL k t i).getD (unitAt k i) ⟨#[]⟩ ++ t.extract i (i + 0) = (cutL k t i).getD (unitAt k i) ⟨#[]⟩ := by
      apply ByteArray.ext
      simp [ByteArray.data_extract]
    rw [e, Nat.add_zero]
    have hu : unitAt k i < (cutL k t i).length := by rw [cutL_len]; exact unit_lt (by omega) i
    rw [show (cutL k t i).getD (unitAt k i) ⟨#[]⟩ = (cutL k t i)[unitAt k i] by simp [List.getD, hu]]
    exact List.set_getElem_self hu
  | d + 1, hd, hz => by
    have ih := cut_cell hk (t := t) h4 d (by omega) (by omega)
    have hu : unitAt k i < (cutL k t i).length := by rw [cutL_len]; exact unit_lt (by omega) i
    have st := cutL_step (k := k) (by omega) t (i + d)
    rw [← byte_cat (show i + d < t.size by omega), unit_same hk h4 (by omega), ← ih] at st
    rw [show i + (d + 1) = i + d + 1 by omega, ← st]
    rw [List.set_set]
    congr 1
    rw [← ext_more (by omega)]
    congr 1
    simp [List.getD, hu]
theorem twRc {ops : Array Oper} {slot pair flag : Nat} (hsz : ops.size = 2) (h0 : (ops[0]?).map (fun o => (o.guard, o.dst, o.op)) = some (none, some pair, .recv 45 (.tmp slot) true)) (h1 : (ops[1]?).map (fun o => (o.guard, o.dst, o.op)) = some (none, some flag, .extract (.tmp pair) 1)) : RcReg Tw.prog ops slot pair flag Go.Proofs.Ytfhcpehfmecpjaa.z48 := by
  obtain ⟨o, a1, a2, a3, a4⟩ := Go.Proofs.Ytfhcpehfmecpjaa.of_map h0
  obtain ⟨p, b1, b2, b3, b4⟩ := Go.Proofs.Ytfhcpehfmecpjaa.of_map h1
  exact ⟨hsz, ⟨o, _, _, _, a1, a2, a3, a4, Go.Proofs.Ytfhcpehfmecpjaa.run_under Tw.underlying45, Go.Proofs.Ytfhcpehfmecpjaa.run_zero (P := Tw.prog) Go.Proofs.Ytfhcpehfmecpjaa.info48z⟩, ⟨p, b1, b2, b3, b4⟩⟩
/-- The twin's cells. -/
theorem twCells (s : Int) (n : Nat) (hn : n ≤ 32) (hs : schOk s = true) (w : World) : Calls Tw.prog 24 #[.int .i64 s, .int .i64 (n : Int)] w fun e w' => e = .returned (.chan (some w.heap.size)) ∧ ∃ m, w' = w.alloc (.chan 32 (cellsK (schK s) n 9 0).toArray true m 0 false) := by
  intro cs
  obtain ⟨fr', w', ⟨q1, q2, q3, q4, q5, m, q6⟩, hr⟩ := twin_good s n hn hs w
  obtain ⟨k, e⟩ := hr cs w.tape
  refine ⟨.returned (.chan (some w.heap.size)), w', fr', ⟨rfl, m, by rw [q6, cells_is hs hn 9 0 (by omega)]⟩, ⟨k, ?_⟩, q1, q2, q3, q4, cellsT, ?_, ?_⟩
  · have e2 : (Go.Proofs.Ytfhcpehfmecpjaa.Rt w' w.tape) = w' := by rw [q6]; rfl
    rw [e2] at e
    exact e
  · rw [q1]; exact tw24
  · have hr2 : (results cellsT fr'.tmps) = pure (.chan (some w.heap.size)) := by
      rw [← q5]
      simp [-Array.getD_eq_getD_getElem?, results, cellsT]
    rw [hr2]
    rfl
end Go.Proofs.YtfhcpehfmecpjaaT
