/- Texts of ours, laid one behind the other: EdU, EdV, EdW, LawRec. -/
import Derived.Test.YtdglbakdianjkaaPr96
import Derived.WalkLawsBesides
import Derived.Deep.RegionHeld3
import Derived.BigQuiet
import Derived.Tactics
import Derived.Tactics2
import Derived.Defers
import Derived.Recover
import Derived.Laws.Pointers
/- EdU: The program's own reader of a record's text: its steps. -/
namespace Go.Proofs.Ytdglbakdianjkaa
set_option maxRecDepth 100000
open Go.RowKit
open Go.PlainAid (bt)
attribute [local go_sem ↓] Go.wp_at_zero Go.wp_at_succ

/-- What the reader gives up with. -/
def noRec : List PanicEntry := [{ v := .iface 73 (.agg #[]), recovered := false }]
theorem implMust_yes (w : World) : Calls Try.prog 43 #[.bool true] w fun e w' => e = .returned (.tuple #[]) ∧ w' = w := by
  go_enter Try.func43, Try.ntmps43
  go_wp2
  refine ⟨rfl, .tuple #[], ?_, rfl, rfl⟩
  simp [results, Try.results43, go_sem]
theorem implMust_no (w : World) : Calls Try.prog 43 #[.bool false] w fun e w' => e = .panicked noRec ∧ w' = w := by
  go_enter Try.func43, Try.ntmps43
  go_wp2
  exact ⟨rfl, rfl, rfl⟩
theorem must_yes (x : World) : Calls Try.prog 43 #[.bool true] x fun e y => e = .returned (.tuple #[]) ∧ Below x.heap.size x y :=
  (implMust_yes x).mono (by rintro e y ⟨rfl, rfl⟩; exact ⟨rfl, Below.refl _ _⟩)
section
variable {P : Program} {Q : Exit → Act → World → Prop} {md : Region.Mode}
/-- One alone may come up, and its call panics. -/
theorem wpL_panics {L r : List Oper} {i : Nat} {oi : Oper} {f : FuncId} {args : Array Value} {chain : List PanicEntry} {n : Nat} {l : Array Bool} {a : Act} {w : World} (hr : Region.ready md L.toArray l = [i]) (hi : L.drop i = oi :: r) (hw : Region.wanted oi (yielded L.toArray a.tmps) = true)
    (hy : ∀ x, Later w x → (execOp a.eval oi).run P x = .ok (.enter f args) x) (hc : ∀ x, Later w x → Calls P f args x fun e y => e = .panicked chain ∧ Q (.panic chain) a y) : wpL P md L.toArray Q (n + 1) l a w := by
  intro x hx
  rw [hr]
  refine ⟨fun h => (by cases h), fun j hj => ?_⟩
  rw [List.mem_singleton] at hj
  subst hj
  unfold wpOp
  rw [at_drop hi]
  dsimp only
  rw [if_pos hw]
  refine Or.inl ?_
  unfold Oper.wp
  rw [hy x hx]
  exact (hc x hx).mono (by rintro e y ⟨rfl, hq⟩; exact hq)
end
theorem Turned.put {w w' : World} {lo hi : Nat} (h : Turned w w' lo hi) (p : Addr) (v : Value) (h1 : lo ≤ p.block) (h2 : p.block < hi) : Turned w (w'.setCell p v) lo hi :=
  ⟨h.base.setCell (Nat.zero_le _) v, fun k hk ho => by rw [Below.heap_setCell _ _ _ _ (by omega)]; exact h.block k hk ho⟩
/-- The reader's box. -/
def RdC (w : World) (R : Nat) (s : ByteArray) (a : Nat) : Prop := WCells w R [.string s, .int .i64 (a : Nat)]
theorem RdC.got {w : World} {R : Nat} {s : ByteArray} {a : Nat} (h : RdC w R s a) : w.cell? ⟨R, 0, none⟩ = some (.string s) ∧ w.cell? ⟨R, 1, none⟩ = some (.int .i64 (a : Nat)) := ⟨(h.2 0 _ rfl).1, (h.2 1 _ rfl).1⟩
theorem RdC.later {w w' : World} {R : Nat} {s : ByteArray} {a : Nat} (h : RdC w R s a) (hb : Below w.heap.size w w') : RdC w' R s a := WCells.grow h hb
theorem RdC.put {w : World} {R : Nat} {s : ByteArray} {a : Nat} (h : RdC w R s a) (b : Nat) : RdC (w.setCell ⟨R, 1, none⟩ (.int .i64 (b : Nat))) R s b := WCells.set h 1 _ (by simp)
set_option maxHeartbeats 1000000 in
theorem implOne_no (R : Nat) (s : ByteArray) (a : Nat) (w : World) (h : RdC w R s a) (ha : s.size ≤ a) : Calls Try.prog 40 #[.pointer (some ⟨R, 0, none⟩)] w fun e w' => e = .panicked noRec ∧ Below w.heap.size w w' := by
  have hd : decide (a < s.size) = false := by simp; omega
  clear ha
  go_enter Try.func40, Try.ntmps40
  go_upto_region 1 with fail
  have HLE : Shut (∀ x, Later w.drew x → x.cell? ⟨R, 0, none⟩ = some (.string s) ∧ x.cell? ⟨R, 1, none⟩ = some (.int .i64 (a : Nat))) := ⟨fun x hx => (h.later (Below.trans (Below.drew (Below.refl _ _)) hx)).got⟩
  have HH := Shut.mk h
  clear h
  refine wp_region_later (by kernel_rfl) ?_
  refine wpL_val (i := 0) (v := ?v0) rfl (by kernel_rfl) (by kernel_rfl) (by kernel_rfl) (fun _ _ _ h => h) (by rfl) ?hy0 ?rest0
  case hy0 => (intro x hx; go_simp; try with_reducible rfl)
  try simp only [Act.put, List.setIfInBounds_toArray, List.set_cons_zero, List.set_cons_succ]
  refine wpL_val (i := 1) (v := ?v1) rfl (by kernel_rfl) (by kernel_rfl) (by kernel_rfl) (fun _ _ _ h => h) (by rfl) ?hy1 ?rest1
  case hy1 => (intro x hx; go_simp; try with_reducible rfl)
  try simp only [Act.put, List.setIfInBounds_toArray, List.set_cons_zero, List.set_cons_succ]
  refine wpL_val (i := 2) (v := ?v2) rfl (by kernel_rfl) (by kernel_rfl) (by kernel_rfl) (fun _ _ _ h => h) (by rfl) ?hy2 ?rest2
  case hy2 => (intro x hx; go_simp; try with_reducible rfl)
  try simp only [Act.put, List.setIfInBounds_toArray, List.set_cons_zero, List.set_cons_succ]
  refine wpL_val (i := 3) (v := ?v3) rfl (by kernel_rfl) (by kernel_rfl) (by kernel_rfl) (fun _ _ _ h => h) (by rfl) ?hy3 ?rest3
  case hy3 => (intro x hx; obtain ⟨c0, c1⟩ := HLE.out x hx; go_simp; try with_reducible rfl)
  try simp only [Act.put, List.setIfInBounds_toArray, List.set_cons_zero, List.set_cons_succ]
  refine wpL_val (i := 4) (v := ?v4) rfl (by kernel_rfl) (by kernel_rfl) (by kernel_rfl) (fun _ _ _ h => h) (by rfl) ?hy4 ?rest4
  case hy4 => (intro x hx; go_simp; try with_reducible rfl)
  try simp only [Act.put, List.setIfInBounds_toArray, List.set_cons_zero, List.set_cons_succ]
  refine wpL_val (i := 5) (v := ?v5) rfl (by kernel_rfl) (by kernel_rfl) (by kernel_rfl) (fun _ _ _ h => h) (by rfl) ?hy5 ?rest5
  case hy5 => (intro x hx; go_simp; try with_reducible rfl)
  try simp only [Act.put, List.setIfInBounds_toArray, List.set_cons_zero, List.set_cons_succ]
  refine wpL_val (i := 6) (v := ?v6) rfl (by kernel_rfl) (by kernel_rfl) (by kernel_rfl) (fun _ _ _ h => h) (by rfl) ?hy6 ?rest6
  case hy6 => (intro x hx; go_simp; try with_reducible rfl)
  try simp only [Act.put, List.setIfInBounds_toArray, List.set_cons_zero, List.set_cons_succ]
  refine wpL_val (i := 7) (v := ?v7) rfl (by kernel_rfl) (by kernel_rfl) (by kernel_rfl) (fun _ _ _ h => h) (by rfl) ?hy7 ?rest7
  case hy7 => (intro x hx; obtain ⟨c0, c1⟩ := HLE.out x hx; go_simp; try with_reducible rfl)
  try simp only [Act.put, List.setIfInBounds_toArray, List.set_cons_zero, List.set_cons_succ]
  refine wpL_val (i := 8) (v := ?v8) rfl (by kernel_rfl) (by kernel_rfl) (by kernel_rfl) (fun _ _ _ h => h) (by rfl) ?hy8 ?rest8
  case hy8 => (intro x hx; go_simp; try with_reducible rfl)
  try simp only [Act.put, List.setIfInBounds_toArray, List.set_cons_zero, List.set_cons_succ]
  refine wpL_val (i := 9) (v := ?v9) rfl (by kernel_rfl) (by kernel_rfl) (by kernel_rfl) (fun _ _ _ h => h) (by rfl) ?hy9 ?rest9
  case hy9 => (intro x hx; go_simp; try with_reducible rfl)
  try simp only [Act.put, List.setIfInBounds_toArray, List.set_cons_zero, List.set_cons_succ]
  refine wpL_panics (i := 10) (f := 43) (args := #[.bool false]) (chain := noRec) (by kernel_rfl) rfl (by rfl) ?hy10 ?hc10
  case hy10 => (intro x hx; go_simp; try with_reducible rfl)
  intro x hx
  refine (implMust_no x).mono ?_
  rintro e y ⟨rfl, rfl⟩
  exact ⟨rfl, rfl, rfl, Below.trans (Below.drew (Below.refl _ _)) hx⟩
set_option maxHeartbeats 1000000 in
theorem implOne_yes (R : Nat) (s : ByteArray) (a : Nat) (w : World) (h : RdC w R s a) (ha : a < s.size) (hs : s.size ≤ 1048576) : Calls Try.prog 40 #[.pointer (some ⟨R, 0, none⟩)] w fun e w' => e = .returned (.int .i64 (bt s a)) ∧ Turned w w' R (R + 1) ∧ RdC w' R s (a + 1) := by
  have hd : decide (a < s.size) = true := by simpa using ha
  have hb := Go.PlainAid.get_bt s
  have hwr := bt_wrap s a
  go_enter Try.func40, Try.ntmps40
  go_upto_region 1 with fail
  have HLE : Shut (∀ x, Later w.drew x → x.cell? ⟨R, 0, none⟩ = some (.string s) ∧ x.cell? ⟨R, 1, none⟩ = some (.int .i64 (a : Nat))) := ⟨fun x hx => (h.later (Below.trans (Below.drew (Below.refl _ _)) hx)).got⟩
  have HH := Shut.mk h
  clear h
  refine wp_region_later (by kernel_rfl) ?_
  refine wpL_val (i := 0) (v := ?v0) rfl (by kernel_rfl) (by kernel_rfl) (by kernel_rfl) (fun _ _ _ h => h) (by rfl) ?hy0 ?rest0
  case hy0 => (intro x hx; go_simp; try with_reducible rfl)
  try simp only [Act.put, List.setIfInBounds_toArray, List.set_cons_zero, List.set_cons_succ]
  refine wpL_val (i := 1) (v := ?v1) rfl (by kernel_rfl) (by kernel_rfl) (by kernel_rfl) (fun _ _ _ h => h) (by rfl) ?hy1 ?rest1
  case hy1 => (intro x hx; go_simp; try with_reducible rfl)
  try simp only [Act.put, List.setIfInBounds_toArray, List.set_cons_zero, List.set_cons_succ]
  refine wpL_val (i := 2) (v := ?v2) rfl (by kernel_rfl) (by kernel_rfl) (by kernel_rfl) (fun _ _ _ h => h) (by rfl) ?hy2 ?rest2
  case hy2 => (intro x hx; go_simp; try with_reducible rfl)
  try simp only [Act.put, List.setIfInBounds_toArray, List.set_cons_zero, List.set_cons_succ]
  refine wpL_val (i := 3) (v := ?v3) rfl (by kernel_rfl) (by kernel_rfl) (by kernel_rfl) (fun _ _ _ h => h) (by rfl) ?hy3 ?rest3
  case hy3 => (intro x hx; obtain ⟨c0, c1⟩ := HLE.out x hx; go_simp; try with_reducible rfl)
  try simp only [Act.put, List.setIfInBounds_toArray, List.set_cons_zero, List.set_cons_succ]
  refine wpL_val (i := 4) (v := ?v4) rfl (by kernel_rfl) (by kernel_rfl) (by kernel_rfl) (fun _ _ _ h => h) (by rfl) ?hy4 ?rest4
  case hy4 => (intro x hx; go_simp; try with_reducible rfl)
  try simp only [Act.put, List.setIfInBounds_toArray, List.set_cons_zero, List.set_cons_succ]
  refine wpL_val (i := 5) (v := ?v5) rfl (by kernel_rfl) (by kernel_rfl) (by kernel_rfl) (fun _ _ _ h => h) (by rfl) ?hy5 ?rest5
  case hy5 => (intro x hx; go_simp; try with_reducible rfl)
  try simp only [Act.put, List.setIfInBounds_toArray, List.set_cons_zero, List.set_cons_succ]
  refine wpL_val (i := 6) (v := ?v6) rfl (by kernel_rfl) (by kernel_rfl) (by kernel_rfl) (fun _ _ _ h => h) (by rfl) ?hy6 ?rest6
  case hy6 => (intro x hx; go_simp; try with_reducible rfl)
  try simp only [Act.put, List.setIfInBounds_toArray, List.set_cons_zero, List.set_cons_succ]
  refine wpL_val (i := 7) (v := ?v7) rfl (by kernel_rfl) (by kernel_rfl) (by kernel_rfl) (fun _ _ _ h => h) (by rfl) ?hy7 ?rest7
  case hy7 => (intro x hx; obtain ⟨c0, c1⟩ := HLE.out x hx; go_simp; try with_reducible rfl)
  try simp only [Act.put, List.setIfInBounds_toArray, List.set_cons_zero, List.set_cons_succ]
  refine wpL_val (i := 8) (v := ?v8) rfl (by kernel_rfl) (by kernel_rfl) (by kernel_rfl) (fun _ _ _ h => h) (by rfl) ?hy8 ?rest8
  case hy8 => (intro x hx; go_simp; try with_reducible rfl)
  try simp only [Act.put, List.setIfInBounds_toArray, List.set_cons_zero, List.set_cons_succ]
  refine wpL_val (i := 9) (v := ?v9) rfl (by kernel_rfl) (by kernel_rfl) (by kernel_rfl) (fun _ _ _ h => h) (by rfl) ?hy9 ?rest9
  case hy9 => (intro x hx; go_simp; try with_reducible rfl)
  try simp only [Act.put, List.setIfInBounds_toArray, List.set_cons_zero, List.set_cons_succ]
  refine wpL_call (i := 10) (v := .tuple #[]) (f := 43) (args := #[.bool true]) rfl (by kernel_rfl) (by kernel_rfl) (by kernel_rfl) (fun _ _ _ h => h) (by rfl) ?hy10 (fun x _ => must_yes x) ?rest10
  case hy10 => (intro x hx; go_simp; try with_reducible rfl)
  try simp only [Act.put, List.setIfInBounds_toArray, List.set_cons_zero, List.set_cons_succ]
  refine wpL_done (by kernel_rfl) ?_ _
  intro y hy
  have H2 : Shut (Below w.heap.size w y) := ⟨Below.trans (Below.drew (Below.refl _ _)) hy⟩
  obtain ⟨c0, c1⟩ := HLE.out y hy
  have hfz := ((HH.out.later H2.out).2 1 _ rfl).2
  clear hy HLE
  have ha2 : (a : Int) < (s.size : Int) := by omega
  have ha3 : (a : Int) + 1 ≤ 1048576 := by omega
  go_wp2_with fail
  go_quiet (fail)
  go_wp2_with fail
  go_ret
  have H3 : Below w.heap.size w (y.drewN nq) := below_drewN H2.out nq
  exact ⟨by rw [hwr]; rfl, (Turned.of_below H3 R (R + 1)).put _ _ (Nat.le_refl _) (Nat.lt_succ_self _), (HH.out.later H3).put (a + 1)⟩
theorem rd_short (s : ByteArray) (a : Nat) (w : World) (hs : s.size ≤ 1048576) : Calls Try.prog 51 #[.string s, .int .i64 (a : Nat)] w fun e w' => e = .returned (rsV (readShortI s (a : Nat))) ∧ Below w.heap.size w w' := implReadShort s a w hs
theorem rd_number (s : ByteArray) (a : Nat) (w : World) (hs : s.size ≤ 1048576) : Calls Try.prog 52 #[.string s, .int .i64 (a : Nat)] w fun e w' => e = .returned (rvV (readVarI s (a : Nat))) ∧ Below w.heap.size w w' :=
  (implReadVar s a w hs).mono (by rintro e y ⟨rfl, rfl⟩; exact ⟨rfl, Below.refl _ _⟩)
set_option maxHeartbeats 1000000 in
theorem implShort_no (R : Nat) (s : ByteArray) (a : Nat) (w : World) (h : RdC w R s a) (hs : s.size ≤ 1048576) (hn : readShortI s (a : Nat) = none) : Calls Try.prog 41 #[.pointer (some ⟨R, 0, none⟩)] w fun e w' => e = .panicked noRec ∧ Below w.heap.size w w' := by
  have HC := Shut.mk (fun x => rd_short s a x hs)
  rw [hn] at HC
  clear hn
  go_enter Try.func41, Try.ntmps41
  go_upto_region 1 with fail
  have HLE : Shut (∀ x, Later w.drew x → x.cell? ⟨R, 0, none⟩ = some (.string s) ∧ x.cell? ⟨R, 1, none⟩ = some (.int .i64 (a : Nat))) := ⟨fun x hx => (h.later (Below.trans (Below.drew (Below.refl _ _)) hx)).got⟩
  have HH := Shut.mk h
  clear h
  refine wp_region_later (by kernel_rfl) ?_
  refine wpL_val (i := 0) (v := ?v0) rfl (by kernel_rfl) (by kernel_rfl) (by kernel_rfl) (fun _ _ _ h => h) (by rfl) ?hy0 ?rest0
  case hy0 => (intro x hx; go_simp; try with_reducible rfl)
  try simp only [Act.put, List.setIfInBounds_toArray, List.set_cons_zero, List.set_cons_succ]
  refine wpL_val (i := 1) (v := ?v1) rfl (by kernel_rfl) (by kernel_rfl) (by kernel_rfl) (fun _ _ _ h => h) (by rfl) ?hy1 ?rest1
  case hy1 => (intro x hx; go_simp; try with_reducible rfl)
  try simp only [Act.put, List.setIfInBounds_toArray, List.set_cons_zero, List.set_cons_succ]
  refine wpL_val (i := 2) (v := ?v2) rfl (by kernel_rfl) (by kernel_rfl) (by kernel_rfl) (fun _ _ _ h => h) (by rfl) ?hy2 ?rest2
  case hy2 => (intro x hx; go_simp; try with_reducible rfl)
  try simp only [Act.put, List.setIfInBounds_toArray, List.set_cons_zero, List.set_cons_succ]
  refine wpL_val (i := 3) (v := ?v3) rfl (by kernel_rfl) (by kernel_rfl) (by kernel_rfl) (fun _ _ _ h => h) (by rfl) ?hy3 ?rest3
  case hy3 => (intro x hx; obtain ⟨c0, c1⟩ := HLE.out x hx; go_simp; try with_reducible rfl)
  try simp only [Act.put, List.setIfInBounds_toArray, List.set_cons_zero, List.set_cons_succ]
  refine wpL_val (i := 4) (v := ?v4) rfl (by kernel_rfl) (by kernel_rfl) (by kernel_rfl) (fun _ _ _ h => h) (by rfl) ?hy4 ?rest4
  case hy4 => (intro x hx; go_simp; try with_reducible rfl)
  try simp only [Act.put, List.setIfInBounds_toArray, List.set_cons_zero, List.set_cons_succ]
  refine wpL_val (i := 5) (v := ?v5) rfl (by kernel_rfl) (by kernel_rfl) (by kernel_rfl) (fun _ _ _ h => h) (by rfl) ?hy5 ?rest5
  case hy5 => (intro x hx; go_simp; try with_reducible rfl)
  try simp only [Act.put, List.setIfInBounds_toArray, List.set_cons_zero, List.set_cons_succ]
  refine wpL_val (i := 6) (v := ?v6) rfl (by kernel_rfl) (by kernel_rfl) (by kernel_rfl) (fun _ _ _ h => h) (by rfl) ?hy6 ?rest6
  case hy6 => (intro x hx; go_simp; try with_reducible rfl)
  try simp only [Act.put, List.setIfInBounds_toArray, List.set_cons_zero, List.set_cons_succ]
  refine wpL_val (i := 7) (v := ?v7) rfl (by kernel_rfl) (by kernel_rfl) (by kernel_rfl) (fun _ _ _ h => h) (by rfl) ?hy7 ?rest7
  case hy7 => (intro x hx; obtain ⟨c0, c1⟩ := HLE.out x hx; go_simp; try with_reducible rfl)
  try simp only [Act.put, List.setIfInBounds_toArray, List.set_cons_zero, List.set_cons_succ]
  refine wpL_call (i := 8) (v := .tuple #[.string ⟨#[]⟩, .int .i64 0, .bool false]) (f := 51) (args := #[.string s, .int .i64 (a : Nat)]) rfl (by kernel_rfl) (by kernel_rfl) (by kernel_rfl) (fun _ _ _ h => h) (by rfl) ?hy8 (fun x _ => HC.out x) ?rest8
  case hy8 => (intro x hx; go_simp; try with_reducible rfl)
  try simp only [Act.put, List.setIfInBounds_toArray, List.set_cons_zero, List.set_cons_succ]
  refine wpL_val (i := 9) (v := ?v9) rfl (by kernel_rfl) (by kernel_rfl) (by kernel_rfl) (fun _ _ _ h => h) (by rfl) ?hy9 ?rest9
  case hy9 => (intro x hx; go_simp; try with_reducible rfl)
  try simp only [Act.put, List.setIfInBounds_toArray, List.set_cons_zero, List.set_cons_succ]
  refine wpL_val (i := 10) (v := ?v10) rfl (by kernel_rfl) (by kernel_rfl) (by kernel_rfl) (fun _ _ _ h => h) (by rfl) ?hy10 ?rest10
  case hy10 => (intro x hx; go_simp; try with_reducible rfl)
  try simp only [Act.put, List.setIfInBounds_toArray, List.set_cons_zero, List.set_cons_succ]
  refine wpL_val (i := 11) (v := ?v11) rfl (by kernel_rfl) (by kernel_rfl) (by kernel_rfl) (fun _ _ _ h => h) (by rfl) ?hy11 ?rest11
  case hy11 => (intro x hx; go_simp; try with_reducible rfl)
  try simp only [Act.put, List.setIfInBounds_toArray, List.set_cons_zero, List.set_cons_succ]
  refine wpL_val (i := 12) (v := ?v12) rfl (by kernel_rfl) (by kernel_rfl) (by kernel_rfl) (fun _ _ _ h => h) (by rfl) ?hy12 ?rest12
  case hy12 => (intro x hx; go_simp; try with_reducible rfl)
  try simp only [Act.put, List.setIfInBounds_toArray, List.set_cons_zero, List.set_cons_succ]
  refine wpL_val (i := 13) (v := ?v13) rfl (by kernel_rfl) (by kernel_rfl) (by kernel_rfl) (fun _ _ _ h => h) (by rfl) ?hy13 ?rest13
  case hy13 => (intro x hx; go_simp; try with_reducible rfl)
  try simp only [Act.put, List.setIfInBounds_toArray, List.set_cons_zero, List.set_cons_succ]
  refine wpL_val (i := 14) (v := ?v14) rfl (by kernel_rfl) (by kernel_rfl) (by kernel_rfl) (fun _ _ _ h => h) (by rfl) ?hy14 ?rest14
  case hy14 => (intro x hx; go_simp; try with_reducible rfl)
  try simp only [Act.put, List.setIfInBounds_toArray, List.set_cons_zero, List.set_cons_succ]
  refine wpL_val (i := 15) (v := ?v15) rfl (by kernel_rfl) (by kernel_rfl) (by kernel_rfl) (fun _ _ _ h => h) (by rfl) ?hy15 ?rest15
  case hy15 => (intro x hx; go_simp; try with_reducible rfl)
  try simp only [Act.put, List.setIfInBounds_toArray, List.set_cons_zero, List.set_cons_succ]
  refine wpL_done (by kernel_rfl) ?_ _
  intro y hy
  have H2 : Shut (Below w.heap.size w y) := ⟨Below.trans (Below.drew (Below.refl _ _)) hy⟩
  clear hy HLE
  go_wp2_with (go_at_call 43; refine (implMust_no _).mono ?_; rintro e w1 ⟨rfl, rfl⟩)
  exact ⟨rfl, rfl, H2.out⟩
set_option maxHeartbeats 1000000 in
theorem implShort_yes (R : Nat) (s : ByteArray) (a : Nat) (w : World) (h : RdC w R s a) (hs : s.size ≤ 1048576) (t : ByteArray) (p : Nat) (hn : readShortI s (a : Nat) = some (t, p)) : Calls Try.prog 41 #[.pointer (some ⟨R, 0, none⟩)] w fun e w' => e = .returned (.string t) ∧ Turned w w' R (R + 1) ∧ RdC w' R s p := by
  have HC := Shut.mk (fun x => rd_short s a x hs)
  rw [hn] at HC
  clear hn
  go_enter Try.func41, Try.ntmps41
  go_upto_region 1 with fail
  have HLE : Shut (∀ x, Later w.drew x → x.cell? ⟨R, 0, none⟩ = some (.string s) ∧ x.cell? ⟨R, 1, none⟩ = some (.int .i64 (a : Nat))) := ⟨fun x hx => (h.later (Below.trans (Below.drew (Below.refl _ _)) hx)).got⟩
  have HH := Shut.mk h
  clear h
  refine wp_region_later (by kernel_rfl) ?_
  refine wpL_val (i := 0) (v := ?v0) rfl (by kernel_rfl) (by kernel_rfl) (by kernel_rfl) (fun _ _ _ h => h) (by rfl) ?hy0 ?rest0
  case hy0 => (intro x hx; go_simp; try with_reducible rfl)
  try simp only [Act.put, List.setIfInBounds_toArray, List.set_cons_zero, List.set_cons_succ]
  refine wpL_val (i := 1) (v := ?v1) rfl (by kernel_rfl) (by kernel_rfl) (by kernel_rfl) (fun _ _ _ h => h) (by rfl) ?hy1 ?rest1
  case hy1 => (intro x hx; go_simp; try with_reducible rfl)
  try simp only [Act.put, List.setIfInBounds_toArray, List.set_cons_zero, List.set_cons_succ]
  refine wpL_val (i := 2) (v := ?v2) rfl (by kernel_rfl) (by kernel_rfl) (by kernel_rfl) (fun _ _ _ h => h) (by rfl) ?hy2 ?rest2
  case hy2 => (intro x hx; go_simp; try with_reducible rfl)
  try simp only [Act.put, List.setIfInBounds_toArray, List.set_cons_zero, List.set_cons_succ]
  refine wpL_val (i := 3) (v := ?v3) rfl (by kernel_rfl) (by kernel_rfl) (by kernel_rfl) (fun _ _ _ h => h) (by rfl) ?hy3 ?rest3
  case hy3 => (intro x hx; obtain ⟨c0, c1⟩ := HLE.out x hx; go_simp; try with_reducible rfl)
  try simp only [Act.put, List.setIfInBounds_toArray, List.set_cons_zero, List.set_cons_succ]
  refine wpL_val (i := 4) (v := ?v4) rfl (by kernel_rfl) (by kernel_rfl) (by kernel_rfl) (fun _ _ _ h => h) (by rfl) ?hy4 ?rest4
  case hy4 => (intro x hx; go_simp; try with_reducible rfl)
  try simp only [Act.put, List.setIfInBounds_toArray, List.set_cons_zero, List.set_cons_succ]
  refine wpL_val (i := 5) (v := ?v5) rfl (by kernel_rfl) (by kernel_rfl) (by kernel_rfl) (fun _ _ _ h => h) (by rfl) ?hy5 ?rest5
  case hy5 => (intro x hx; go_simp; try with_reducible rfl)
  try simp only [Act.put, List.setIfInBounds_toArray, List.set_cons_zero, List.set_cons_succ]
  refine wpL_val (i := 6) (v := ?v6) rfl (by kernel_rfl) (by kernel_rfl) (by kernel_rfl) (fun _ _ _ h => h) (by rfl) ?hy6 ?rest6
  case hy6 => (intro x hx; go_simp; try with_reducible rfl)
  try simp only [Act.put, List.setIfInBounds_toArray, List.set_cons_zero, List.set_cons_succ]
  refine wpL_val (i := 7) (v := ?v7) rfl (by kernel_rfl) (by kernel_rfl) (by kernel_rfl) (fun _ _ _ h => h) (by rfl) ?hy7 ?rest7
  case hy7 => (intro x hx; obtain ⟨c0, c1⟩ := HLE.out x hx; go_simp; try with_reducible rfl)
  try simp only [Act.put, List.setIfInBounds_toArray, List.set_cons_zero, List.set_cons_succ]
  refine wpL_call (i := 8) (v := .tuple #[.string t, .int .i64 (p : Nat), .bool true]) (f := 51) (args := #[.string s, .int .i64 (a : Nat)]) rfl (by kernel_rfl) (by kernel_rfl) (by kernel_rfl) (fun _ _ _ h => h) (by rfl) ?hy8 (fun x _ => HC.out x) ?rest8
  case hy8 => (intro x hx; go_simp; try with_reducible rfl)
  try simp only [Act.put, List.setIfInBounds_toArray, List.set_cons_zero, List.set_cons_succ]
  refine wpL_val (i := 9) (v := ?v9) rfl (by kernel_rfl) (by kernel_rfl) (by kernel_rfl) (fun _ _ _ h => h) (by rfl) ?hy9 ?rest9
  case hy9 => (intro x hx; go_simp; try with_reducible rfl)
  try simp only [Act.put, List.setIfInBounds_toArray, List.set_cons_zero, List.set_cons_succ]
  refine wpL_val (i := 10) (v := ?v10) rfl (by kernel_rfl) (by kernel_rfl) (by kernel_rfl) (fun _ _ _ h => h) (by rfl) ?hy10 ?rest10
  case hy10 => (intro x hx; go_simp; try with_reducible rfl)
  try simp only [Act.put, List.setIfInBounds_toArray, List.set_cons_zero, List.set_cons_succ]
  refine wpL_val (i := 11) (v := ?v11) rfl (by kernel_rfl) (by kernel_rfl) (by kernel_rfl) (fun _ _ _ h => h) (by rfl) ?hy11 ?rest11
  case hy11 => (intro x hx; go_simp; try with_reducible rfl)
  try simp only [Act.put, List.setIfInBounds_toArray, List.set_cons_zero, List.set_cons_succ]
  refine wpL_val (i := 12) (v := ?v12) rfl (by kernel_rfl) (by kernel_rfl) (by kernel_rfl) (fun _ _ _ h => h) (by rfl) ?hy12 ?rest12
  case hy12 => (intro x hx; go_simp; try with_reducible rfl)
  try simp only [Act.put, List.setIfInBounds_toArray, List.set_cons_zero, List.set_cons_succ]
  refine wpL_val (i := 13) (v := ?v13) rfl (by kernel_rfl) (by kernel_rfl) (by kernel_rfl) (fun _ _ _ h => h) (by rfl) ?hy13 ?rest13
  case hy13 => (intro x hx; go_simp; try with_reducible rfl)
  try simp only [Act.put, List.setIfInBounds_toArray, List.set_cons_zero, List.set_cons_succ]
  refine wpL_val (i := 14) (v := ?v14) rfl (by kernel_rfl) (by kernel_rfl) (by kernel_rfl) (fun _ _ _ h => h) (by rfl) ?hy14 ?rest14
  case hy14 => (intro x hx; go_simp; try with_reducible rfl)
  try simp only [Act.put, List.setIfInBounds_toArray, List.set_cons_zero, List.set_cons_succ]
  refine wpL_val (i := 15) (v := ?v15) rfl (by kernel_rfl) (by kernel_rfl) (by kernel_rfl) (fun _ _ _ h => h) (by rfl) ?hy15 ?rest15
  case hy15 => (intro x hx; go_simp; try with_reducible rfl)
  try simp only [Act.put, List.setIfInBounds_toArray, List.set_cons_zero, List.set_cons_succ]
  refine wpL_done (by kernel_rfl) ?_ _
  intro y hy
  have H2 : Shut (Below w.heap.size w y) := ⟨Below.trans (Below.drew (Below.refl _ _)) hy⟩
  have hfz := ((HH.out.later H2.out).2 1 _ rfl).2
  have hcl := ((HH.out.later H2.out).2 1 _ rfl).1
  clear hy HLE
  go_wp2_with (go_at_call 43; refine (implMust_yes _).mono ?_; rintro e w1 ⟨rfl, rfl⟩)
  go_ret
  exact ⟨rfl, (Turned.of_below H2.out R (R + 1)).put _ _ (Nat.le_refl _) (Nat.lt_succ_self _), (HH.out.later H2.out).put p⟩
set_option maxHeartbeats 1000000 in
theorem implNumber_no (R : Nat) (s : ByteArray) (a : Nat) (w : World) (h : RdC w R s a) (hs : s.size ≤ 1048576) (hn : readVarI s (a : Nat) = none) : Calls Try.prog 42 #[.pointer (some ⟨R, 0, none⟩)] w fun e w' => e = .panicked noRec ∧ Below w.heap.size w w' := by
  have HC := Shut.mk (fun x => rd_number s a x hs)
  rw [hn] at HC
  clear hn
  go_enter Try.func42, Try.ntmps42
  go_upto_region 1 with fail
  have HLE : Shut (∀ x, Later w.drew x → x.cell? ⟨R, 0, none⟩ = some (.string s) ∧ x.cell? ⟨R, 1, none⟩ = some (.int .i64 (a : Nat))) := ⟨fun x hx => (h.later (Below.trans (Below.drew (Below.refl _ _)) hx)).got⟩
  have HH := Shut.mk h
  clear h
  refine wp_region_later (by kernel_rfl) ?_
  refine wpL_val (i := 0) (v := ?v0) rfl (by kernel_rfl) (by kernel_rfl) (by kernel_rfl) (fun _ _ _ h => h) (by rfl) ?hy0 ?rest0
  case hy0 => (intro x hx; go_simp; try with_reducible rfl)
  try simp only [Act.put, List.setIfInBounds_toArray, List.set_cons_zero, List.set_cons_succ]
  refine wpL_val (i := 1) (v := ?v1) rfl (by kernel_rfl) (by kernel_rfl) (by kernel_rfl) (fun _ _ _ h => h) (by rfl) ?hy1 ?rest1
  case hy1 => (intro x hx; go_simp; try with_reducible rfl)
  try simp only [Act.put, List.setIfInBounds_toArray, List.set_cons_zero, List.set_cons_succ]
  refine wpL_val (i := 2) (v := ?v2) rfl (by kernel_rfl) (by kernel_rfl) (by kernel_rfl) (fun _ _ _ h => h) (by rfl) ?hy2 ?rest2
  case hy2 => (intro x hx; go_simp; try with_reducible rfl)
  try simp only [Act.put, List.setIfInBounds_toArray, List.set_cons_zero, List.set_cons_succ]
  refine wpL_val (i := 3) (v := ?v3) rfl (by kernel_rfl) (by kernel_rfl) (by kernel_rfl) (fun _ _ _ h => h) (by rfl) ?hy3 ?rest3
  case hy3 => (intro x hx; obtain ⟨c0, c1⟩ := HLE.out x hx; go_simp; try with_reducible rfl)
  try simp only [Act.put, List.setIfInBounds_toArray, List.set_cons_zero, List.set_cons_succ]
  refine wpL_val (i := 4) (v := ?v4) rfl (by kernel_rfl) (by kernel_rfl) (by kernel_rfl) (fun _ _ _ h => h) (by rfl) ?hy4 ?rest4
  case hy4 => (intro x hx; go_simp; try with_reducible rfl)
  try simp only [Act.put, List.setIfInBounds_toArray, List.set_cons_zero, List.set_cons_succ]
  refine wpL_val (i := 5) (v := ?v5) rfl (by kernel_rfl) (by kernel_rfl) (by kernel_rfl) (fun _ _ _ h => h) (by rfl) ?hy5 ?rest5
  case hy5 => (intro x hx; go_simp; try with_reducible rfl)
  try simp only [Act.put, List.setIfInBounds_toArray, List.set_cons_zero, List.set_cons_succ]
  refine wpL_val (i := 6) (v := ?v6) rfl (by kernel_rfl) (by kernel_rfl) (by kernel_rfl) (fun _ _ _ h => h) (by rfl) ?hy6 ?rest6
  case hy6 => (intro x hx; go_simp; try with_reducible rfl)
  try simp only [Act.put, List.setIfInBounds_toArray, List.set_cons_zero, List.set_cons_succ]
  refine wpL_val (i := 7) (v := ?v7) rfl (by kernel_rfl) (by kernel_rfl) (by kernel_rfl) (fun _ _ _ h => h) (by rfl) ?hy7 ?rest7
  case hy7 => (intro x hx; obtain ⟨c0, c1⟩ := HLE.out x hx; go_simp; try with_reducible rfl)
  try simp only [Act.put, List.setIfInBounds_toArray, List.set_cons_zero, List.set_cons_succ]
  refine wpL_call (i := 8) (v := .tuple #[.int .i64 0, .int .i64 0, .bool false]) (f := 52) (args := #[.string s, .int .i64 (a : Nat)]) rfl (by kernel_rfl) (by kernel_rfl) (by kernel_rfl) (fun _ _ _ h => h) (by rfl) ?hy8 (fun x _ => HC.out x) ?rest8
  case hy8 => (intro x hx; go_simp; try with_reducible rfl)
  try simp only [Act.put, List.setIfInBounds_toArray, List.set_cons_zero, List.set_cons_succ]
  refine wpL_val (i := 9) (v := ?v9) rfl (by kernel_rfl) (by kernel_rfl) (by kernel_rfl) (fun _ _ _ h => h) (by rfl) ?hy9 ?rest9
  case hy9 => (intro x hx; go_simp; try with_reducible rfl)
  try simp only [Act.put, List.setIfInBounds_toArray, List.set_cons_zero, List.set_cons_succ]
  refine wpL_val (i := 10) (v := ?v10) rfl (by kernel_rfl) (by kernel_rfl) (by kernel_rfl) (fun _ _ _ h => h) (by rfl) ?hy10 ?rest10
  case hy10 => (intro x hx; go_simp; try with_reducible rfl)
  try simp only [Act.put, List.setIfInBounds_toArray, List.set_cons_zero, List.set_cons_succ]
  refine wpL_val (i := 11) (v := ?v11) rfl (by kernel_rfl) (by kernel_rfl) (by kernel_rfl) (fun _ _ _ h => h) (by rfl) ?hy11 ?rest11
  case hy11 => (intro x hx; go_simp; try with_reducible rfl)
  try simp only [Act.put, List.setIfInBounds_toArray, List.set_cons_zero, List.set_cons_succ]
  refine wpL_val (i := 12) (v := ?v12) rfl (by kernel_rfl) (by kernel_rfl) (by kernel_rfl) (fun _ _ _ h => h) (by rfl) ?hy12 ?rest12
  case hy12 => (intro x hx; go_simp; try with_reducible rfl)
  try simp only [Act.put, List.setIfInBounds_toArray, List.set_cons_zero, List.set_cons_succ]
  refine wpL_val (i := 13) (v := ?v13) rfl (by kernel_rfl) (by kernel_rfl) (by kernel_rfl) (fun _ _ _ h => h) (by rfl) ?hy13 ?rest13
  case hy13 => (intro x hx; go_simp; try with_reducible rfl)
  try simp only [Act.put, List.setIfInBounds_toArray, List.set_cons_zero, List.set_cons_succ]
  refine wpL_val (i := 14) (v := ?v14) rfl (by kernel_rfl) (by kernel_rfl) (by kernel_rfl) (fun _ _ _ h => h) (by rfl) ?hy14 ?rest14
  case hy14 => (intro x hx; go_simp; try with_reducible rfl)
  try simp only [Act.put, List.setIfInBounds_toArray, List.set_cons_zero, List.set_cons_succ]
  refine wpL_val (i := 15) (v := ?v15) rfl (by kernel_rfl) (by kernel_rfl) (by kernel_rfl) (fun _ _ _ h => h) (by rfl) ?hy15 ?rest15
  case hy15 => (intro x hx; go_simp; try with_reducible rfl)
  try simp only [Act.put, List.setIfInBounds_toArray, List.set_cons_zero, List.set_cons_succ]
  refine wpL_done (by kernel_rfl) ?_ _
  intro y hy
  have H2 : Shut (Below w.heap.size w y) := ⟨Below.trans (Below.drew (Below.refl _ _)) hy⟩
  clear hy HLE
  go_wp2_with (go_at_call 43; refine (implMust_no _).mono ?_; rintro e w1 ⟨rfl, rfl⟩)
  exact ⟨rfl, rfl, H2.out⟩
set_option maxHeartbeats 1000000 in
theorem implNumber_yes (R : Nat) (s : ByteArray) (a : Nat) (w : World) (h : RdC w R s a) (hs : s.size ≤ 1048576) (t : Nat) (p : Nat) (hn : readVarI s (a : Nat) = some (t, p)) : Calls Try.prog 42 #[.pointer (some ⟨R, 0, none⟩)] w fun e w' => e = .returned (.int .i64 (t : Nat)) ∧ Turned w w' R (R + 1) ∧ RdC w' R s p := by
  have HC := Shut.mk (fun x => rd_number s a x hs)
  rw [hn] at HC
  clear hn
  go_enter Try.func42, Try.ntmps42
  go_upto_region 1 with fail
  have HLE : Shut (∀ x, Later w.drew x → x.cell? ⟨R, 0, none⟩ = some (.string s) ∧ x.cell? ⟨R, 1, none⟩ = some (.int .i64 (a : Nat))) := ⟨fun x hx => (h.later (Below.trans (Below.drew (Below.refl _ _)) hx)).got⟩
  have HH := Shut.mk h
  clear h
  refine wp_region_later (by kernel_rfl) ?_
  refine wpL_val (i := 0) (v := ?v0) rfl (by kernel_rfl) (by kernel_rfl) (by kernel_rfl) (fun _ _ _ h => h) (by rfl) ?hy0 ?rest0
  case hy0 => (intro x hx; go_simp; try with_reducible rfl)
  try simp only [Act.put, List.setIfInBounds_toArray, List.set_cons_zero, List.set_cons_succ]
  refine wpL_val (i := 1) (v := ?v1) rfl (by kernel_rfl) (by kernel_rfl) (by kernel_rfl) (fun _ _ _ h => h) (by rfl) ?hy1 ?rest1
  case hy1 => (intro x hx; go_simp; try with_reducible rfl)
  try simp only [Act.put, List.setIfInBounds_toArray, List.set_cons_zero, List.set_cons_succ]
  refine wpL_val (i := 2) (v := ?v2) rfl (by kernel_rfl) (by kernel_rfl) (by kernel_rfl) (fun _ _ _ h => h) (by rfl) ?hy2 ?rest2
  case hy2 => (intro x hx; go_simp; try with_reducible rfl)
  try simp only [Act.put, List.setIfInBounds_toArray, List.set_cons_zero, List.set_cons_succ]
  refine wpL_val (i := 3) (v := ?v3) rfl (by kernel_rfl) (by kernel_rfl) (by kernel_rfl) (fun _ _ _ h => h) (by rfl) ?hy3 ?rest3
  case hy3 => (intro x hx; obtain ⟨c0, c1⟩ := HLE.out x hx; go_simp; try with_reducible rfl)
  try simp only [Act.put, List.setIfInBounds_toArray, List.set_cons_zero, List.set_cons_succ]
  refine wpL_val (i := 4) (v := ?v4) rfl (by kernel_rfl) (by kernel_rfl) (by kernel_rfl) (fun _ _ _ h => h) (by rfl) ?hy4 ?rest4
  case hy4 => (intro x hx; go_simp; try with_reducible rfl)
  try simp only [Act.put, List.setIfInBounds_toArray, List.set_cons_zero, List.set_cons_succ]
  refine wpL_val (i := 5) (v := ?v5) rfl (by kernel_rfl) (by kernel_rfl) (by kernel_rfl) (fun _ _ _ h => h) (by rfl) ?hy5 ?rest5
  case hy5 => (intro x hx; go_simp; try with_reducible rfl)
  try simp only [Act.put, List.setIfInBounds_toArray, List.set_cons_zero, List.set_cons_succ]
  refine wpL_val (i := 6) (v := ?v6) rfl (by kernel_rfl) (by kernel_rfl) (by kernel_rfl) (fun _ _ _ h => h) (by rfl) ?hy6 ?rest6
  case hy6 => (intro x hx; go_simp; try with_reducible rfl)
  try simp only [Act.put, List.setIfInBounds_toArray, List.set_cons_zero, List.set_cons_succ]
  refine wpL_val (i := 7) (v := ?v7) rfl (by kernel_rfl) (by kernel_rfl) (by kernel_rfl) (fun _ _ _ h => h) (by rfl) ?hy7 ?rest7
  case hy7 => (intro x hx; obtain ⟨c0, c1⟩ := HLE.out x hx; go_simp; try with_reducible rfl)
  try simp only [Act.put, List.setIfInBounds_toArray, List.set_cons_zero, List.set_cons_succ]
  refine wpL_call (i := 8) (v := .tuple #[.int .i64 (t : Nat), .int .i64 (p : Nat), .bool true]) (f := 52) (args := #[.string s, .int .i64 (a : Nat)]) rfl (by kernel_rfl) (by kernel_rfl) (by kernel_rfl) (fun _ _ _ h => h) (by rfl) ?hy8 (fun x _ => HC.out x) ?rest8
  case hy8 => (intro x hx; go_simp; try with_reducible rfl)
  try simp only [Act.put, List.setIfInBounds_toArray, List.set_cons_zero, List.set_cons_succ]
  refine wpL_val (i := 9) (v := ?v9) rfl (by kernel_rfl) (by kernel_rfl) (by kernel_rfl) (fun _ _ _ h => h) (by rfl) ?hy9 ?rest9
  case hy9 => (intro x hx; go_simp; try with_reducible rfl)
  try simp only [Act.put, List.setIfInBounds_toArray, List.set_cons_zero, List.set_cons_succ]
  refine wpL_val (i := 10) (v := ?v10) rfl (by kernel_rfl) (by kernel_rfl) (by kernel_rfl) (fun _ _ _ h => h) (by rfl) ?hy10 ?rest10
  case hy10 => (intro x hx; go_simp; try with_reducible rfl)
  try simp only [Act.put, List.setIfInBounds_toArray, List.set_cons_zero, List.set_cons_succ]
  refine wpL_val (i := 11) (v := ?v11) rfl (by kernel_rfl) (by kernel_rfl) (by kernel_rfl) (fun _ _ _ h => h) (by rfl) ?hy11 ?rest11
  case hy11 => (intro x hx; go_simp; try with_reducible rfl)
  try simp only [Act.put, List.setIfInBounds_toArray, List.set_cons_zero, List.set_cons_succ]
  refine wpL_val (i := 12) (v := ?v12) rfl (by kernel_rfl) (by kernel_rfl) (by kernel_rfl) (fun _ _ _ h => h) (by rfl) ?hy12 ?rest12
  case hy12 => (intro x hx; go_simp; try with_reducible rfl)
  try simp only [Act.put, List.setIfInBounds_toArray, List.set_cons_zero, List.set_cons_succ]
  refine wpL_val (i := 13) (v := ?v13) rfl (by kernel_rfl) (by kernel_rfl) (by kernel_rfl) (fun _ _ _ h => h) (by rfl) ?hy13 ?rest13
  case hy13 => (intro x hx; go_simp; try with_reducible rfl)
  try simp only [Act.put, List.setIfInBounds_toArray, List.set_cons_zero, List.set_cons_succ]
  refine wpL_val (i := 14) (v := ?v14) rfl (by kernel_rfl) (by kernel_rfl) (by kernel_rfl) (fun _ _ _ h => h) (by rfl) ?hy14 ?rest14
  case hy14 => (intro x hx; go_simp; try with_reducible rfl)
  try simp only [Act.put, List.setIfInBounds_toArray, List.set_cons_zero, List.set_cons_succ]
  refine wpL_val (i := 15) (v := ?v15) rfl (by kernel_rfl) (by kernel_rfl) (by kernel_rfl) (fun _ _ _ h => h) (by rfl) ?hy15 ?rest15
  case hy15 => (intro x hx; go_simp; try with_reducible rfl)
  try simp only [Act.put, List.setIfInBounds_toArray, List.set_cons_zero, List.set_cons_succ]
  refine wpL_done (by kernel_rfl) ?_ _
  intro y hy
  have H2 : Shut (Below w.heap.size w y) := ⟨Below.trans (Below.drew (Below.refl _ _)) hy⟩
  have hfz := ((HH.out.later H2.out).2 1 _ rfl).2
  have hcl := ((HH.out.later H2.out).2 1 _ rfl).1
  clear hy HLE
  go_wp2_with (go_at_call 43; refine (implMust_yes _).mono ?_; rintro e w1 ⟨rfl, rfl⟩)
  go_ret
  exact ⟨rfl, (Turned.of_below H2.out R (R + 1)).put _ _ (Nat.le_refl _) (Nat.lt_succ_self _), (HH.out.later H2.out).put p⟩
end Go.Proofs.Ytdglbakdianjkaa
/- EdV: The program's own reader of a record's text, whole. -/
namespace Go.Proofs.Ytdglbakdianjkaa
open Go.RowKit
open Go.PlainAid (bt)
attribute [local go_sem ↓] Go.wp_at_zero Go.wp_at_succ

section
variable {P : Program} {Q : Exit → Act → World → Prop} {md : Region.Mode}
/-- Take number i: it is not wanted. -/
theorem wpL_skip {L r : List Oper} {i : Nat} {oi : Oper} {n : Nat} {l : Array Bool} {a : Act} {w : World} (hi : L.drop i = oi :: r) (hs : Region.noSelect L.toArray = true) (hf : Region.free md L.toArray l i = true) (hr : (Region.ready md L.toArray l).contains i = true)
    (hQ : ∀ c a w, Q (.panic c) (a.put oi.dst undef) w → Q (.panic c) a w) (hw : Region.wanted oi (yielded L.toArray a.tmps) = false)
    (h : wpL P md L.toArray Q n (l.setIfInBounds i true) (a.put oi.dst undef) w) : wpL P md L.toArray Q (n + 1) l a w :=
  wpL_first (at_drop hi) (Region.noSelect_spec hs) hQ n l a w (Region.free_spec (at_drop hi) hf) (by simpa using hr) (Or.inr ⟨hw, rfl⟩) h
end
/-- The reader's box, the answer's box, the record's box. -/
def RE (w0 w : World) (R A B : Nat) (s : ByteArray) (a : Nat) (X : EM) : Prop := RdC w R s a ∧ WCells w A (ecells zeroE) ∧ WCells w B (ecells X) ∧ Turned w0 w R (R + 1) ∧ A ≠ B ∧ R < w0.heap.size ∧ w0.heap.size ≤ A ∧ w0.heap.size ≤ B
theorem RE.turned {w0 w w' : World} {R A B : Nat} {s : ByteArray} {a b : Nat} {X : EM} (h : RE w0 w R A B s a X) (ht : Turned w w' R (R + 1)) (hr : RdC w' R s b) : RE w0 w' R A B s b X :=
  ⟨hr, h.2.1.turned ht (by have := h.2.2.2.2.2; omega), h.2.2.1.turned ht (by have := h.2.2.2.2.2; omega), h.2.2.2.1.trans ht, h.2.2.2.2⟩
theorem RE.below {w0 w w' : World} {R A B : Nat} {s : ByteArray} {a : Nat} {X : EM} (h : RE w0 w R A B s a X) (hb : Below w.heap.size w w') : RE w0 w' R A B s a X :=
  ⟨h.1.later hb, h.2.1.grow hb, h.2.2.1.grow hb, h.2.2.2.1.trans (Turned.of_below hb _ _), h.2.2.2.2⟩
theorem Turned.fresh {w w' : World} {lo hi : Nat} (h : Turned w w' lo hi) (p : Addr) (v : Value) (h1 : w.heap.size ≤ p.block) : Turned w (w'.setCell p v) lo hi :=
  ⟨h.base.setCell (Nat.zero_le _) v, fun k hk ho => by rw [Below.heap_setCell _ _ _ _ (by omega)]; exact h.block k hk ho⟩
theorem RE.set {w0 w : World} {R A B : Nat} {s : ByteArray} {a : Nat} {X Y : EM} (h : RE w0 w R A B s a X) (i : Nat) (v : Value) (hi : i < 5) (hz : (ecells X).set i v = ecells Y) : RE w0 (w.setCell ⟨B, i, none⟩ v) R A B s a Y :=
  ⟨WCells.other h.1 _ _ (by have := h.2.2.2.2.2; show R ≠ B; omega), h.2.1.other _ _ h.2.2.2.2.1, by rw [← hz]; exact h.2.2.1.set i v (by rw [ecells_len]; exact hi), h.2.2.2.1.fresh _ _ h.2.2.2.2.2.2.2, h.2.2.2.2⟩
theorem RE.got {w0 w : World} {R A B : Nat} {s : ByteArray} {a : Nat} {X : EM} (h : RE w0 w R A B s a X) (i : Nat) (v : Value) (hv : (ecells X)[i]? = some v) : w.cell? ⟨B, i, none⟩ = some v ∧ w.frozen? ⟨B, i, none⟩ = false := h.2.2.1.2 i v hv
theorem RE.all {w0 w : World} {R A B : Nat} {s : ByteArray} {a : Nat} {X : EM} (h : RE w0 w R A B s a X) : w.cell? ⟨R, 0, none⟩ = some (.string s) ∧ w.cell? ⟨R, 1, none⟩ = some (.int .i64 (a : Nat)) ∧ w.cell? ⟨B, 0, none⟩ = some (.int .i64 X.kind) ∧ w.cell? ⟨B, 1, none⟩ = some (.string X.path) ∧ w.cell? ⟨B, 2, none⟩ = some (.string X.dest) ∧ w.cell? ⟨B, 3, none⟩ = some (.int .i64 X.num) ∧ w.cell? ⟨B, 4, none⟩ = some (.int .i64 X.who) :=
  ⟨h.1.got.1, h.1.got.2, (h.got 0 _ rfl).1, (h.got 1 _ rfl).1, (h.got 2 _ rfl).1, (h.got 3 _ rfl).1, (h.got 4 _ rfl).1⟩
theorem RE.put {w0 w : World} {R A B : Nat} {s : ByteArray} {a : Nat} {X : EM} (h : RE w0 w R A B s a X) (Z : EM) : Turned w0 (put5 w A Z) R (R + 1) :=
  ((((h.2.2.2.1.fresh ⟨A, 0, none⟩ _ h.2.2.2.2.2.2.1).fresh ⟨A, 1, none⟩ _ h.2.2.2.2.2.2.1).fresh ⟨A, 2, none⟩ _ h.2.2.2.2.2.2.1).fresh ⟨A, 3, none⟩ _ h.2.2.2.2.2.2.1).fresh ⟨A, 4, none⟩ _ h.2.2.2.2.2.2.1
theorem re_new (w : World) (R : Nat) (s : ByteArray) (a : Nat) (h : RdC w R s a) (T T' : TypeId) : RE w ((w.alloc (.cells #[.int .i64 0, .string ⟨#[]⟩, .string ⟨#[]⟩, .int .i64 0, .int .i64 0] T)).alloc (.cells #[.int .i64 0, .string ⟨#[]⟩, .string ⟨#[]⟩, .int .i64 0, .int .i64 0] T')) R w.heap.size (w.heap.size + 1) s a zeroE := by
  have hb : Below w.heap.size w ((w.alloc (.cells #[.int .i64 0, .string ⟨#[]⟩, .string ⟨#[]⟩, .int .i64 0, .int .i64 0] T)).alloc (.cells #[.int .i64 0, .string ⟨#[]⟩, .string ⟨#[]⟩, .int .i64 0, .int .i64 0] T')) := ((Below.refl _ _).alloc (Nat.le_refl _) _).alloc (by simp) _
  refine ⟨h.later hb, (wcells_new w #[.int .i64 0, .string ⟨#[]⟩, .string ⟨#[]⟩, .int .i64 0, .int .i64 0] T).alloc _, ?_, Turned.of_below hb _ _, by omega, h.1, Nat.le_refl _, Nat.le_succ _⟩
  have := wcells_new (w.alloc (.cells #[.int .i64 0, .string ⟨#[]⟩, .string ⟨#[]⟩, .int .i64 0, .int .i64 0] T)) #[.int .i64 0, .string ⟨#[]⟩, .string ⟨#[]⟩, .int .i64 0, .int .i64 0] T'
  have e : (w.alloc (.cells #[.int .i64 0, .string ⟨#[]⟩, .string ⟨#[]⟩, .int .i64 0, .int .i64 0] T)).heap.size = w.heap.size + 1 := by simp
  rw [e] at this
  exact this
theorem put5_cells {w : World} {A : Nat} {X : EM} (h : WCells w A (ecells X)) (Z : EM) : WCells (put5 w A Z) A (ecells Z) :=
  ((((h.set 0 (.int .i64 Z.kind) (by simp [ecells])).set 1 (.string Z.path) (by simp [ecells])).set 2 (.string Z.dest) (by simp [ecells])).set 3 (.int .i64 Z.num) (by simp [ecells])).set 4 (.int .i64 Z.who) (by simp [ecells])
/-- What the reader does. -/
def EdPost (s : ByteArray) (w : World) (R : Nat) (e : Ending) (w' : World) : Prop := (∃ X, progE s = some X ∧ e = .returned (ev X) ∧ Turned w w' R (R + 1)) ∨ (progE s = none ∧ e = .panicked noRec ∧ Turned w w' R (R + 1))
set_option maxRecDepth 100000 in
set_option maxHeartbeats 2000000 in
theorem implEdit (R : Nat) (s : ByteArray) (w : World) (h : RdC w R s 0) (hs : s.size ≤ 1048576) : Calls Try.prog 24 #[.pointer (some ⟨R, 0, none⟩)] w fun e w' => EdPost s w R e w' := by
  have HN := Shut.mk (re_new w R s 0 h 25 25)
  clear h
  go_enter Try.func24, Try.ntmps24
  go_upto_region 2 with fail
  obtain ⟨W0, hW0⟩ : ∃ W0, W0 = (w.alloc (.cells #[.int .i64 0, .string ⟨#[]⟩, .string ⟨#[]⟩, .int .i64 0, .int .i64 0] 25)).alloc (.cells #[.int .i64 0, .string ⟨#[]⟩, .string ⟨#[]⟩, .int .i64 0, .int .i64 0] 25) := ⟨_, rfl⟩
  rw [← hW0] at HN ⊢
  clear hW0
  by_cases q0 : s.size ≤ 0
  · have HNO : Shut (progE s = none) := ⟨by unfold progE; rw [if_neg (by omega)]⟩
    have HC := Shut.mk (implOne_no R s 0 W0 HN.out.1 q0)
    clear q0
    go_wp2_with (go_at_call 40; refine HC.out.mono ?_; rintro e w1 ⟨rfl, hb1⟩)
    exact ⟨rfl, Or.inr ⟨HNO.out, rfl, (HN.out.below hb1).2.2.2.1⟩⟩
  have HC := Shut.mk (implOne_yes R s 0 W0 HN.out.1 (by omega) hs)
  have HC0 := Shut.mk (implOne_yes R s 0 W0 HN.out.1 (by omega) hs)
  go_upto_region 3 with (go_at_call 40; refine HC0.out.mono ?_; rintro e w1 ⟨rfl, ht1, hr1⟩; have H9 := Shut.mk (HN.out.turned ht1 hr1); clear ht1 hr1; obtain ⟨g1, g2⟩ := H9.out.got 0 _ rfl)
  obtain ⟨W1, hW1⟩ : ∃ W, W = w1.setCell ⟨w.heap.size + 1, 0, none⟩ (Value.int .i64 (bt s 0)) := ⟨_, rfl⟩
  rw [← hW1]
  have H1 : Shut (RE w W1 R w.heap.size (w.heap.size + 1) s 1 ⟨bt s 0, ⟨#[]⟩, ⟨#[]⟩, 0, 0⟩) := ⟨by rw [hW1]; exact H9.out.set 0 _ (by omega) rfl⟩
  clear hW1 H9 g1 g2 HC0 HN
  by_cases q1 : s.size ≤ 1
  · have HNO : Shut (progE s = none) := ⟨by unfold progE; rw [if_neg (by omega)]⟩
    have HC := Shut.mk (implOne_no R s 1 W1 H1.out.1 q1)
    clear q1 q0
    go_wp2_with (go_at_call 40; refine HC.out.mono ?_; rintro e w1 ⟨rfl, hb1⟩)
    exact ⟨rfl, Or.inr ⟨HNO.out, rfl, (H1.out.below hb1).2.2.2.1⟩⟩
  have HC1 := Shut.mk (implOne_yes R s 1 W1 H1.out.1 (by omega) hs)
  go_upto_region 4 with (go_at_call 40; refine HC1.out.mono ?_; rintro e w1 ⟨rfl, ht1, hr1⟩; have H9 := Shut.mk (H1.out.turned ht1 hr1); clear ht1 hr1; obtain ⟨g1, g2⟩ := H9.out.got 4 _ rfl)
  obtain ⟨W2, hW2⟩ : ∃ W, W = w1.setCell ⟨w.heap.size + 1, 4, none⟩ (Value.int .i64 (bt s 1)) := ⟨_, rfl⟩
  rw [← hW2]
  have H2 : Shut (RE w W2 R w.heap.size (w.heap.size + 1) s 2 ⟨bt s 0, ⟨#[]⟩, ⟨#[]⟩, 0, bt s 1⟩) := ⟨by rw [hW2]; exact H9.out.set 4 _ (by omega) rfl⟩
  clear hW2 H9 g1 g2 HC1 H1
  have q2 : 2 ≤ s.size := by omega
  clear q0 q1
  cases e1 : readShortI s 2 with
  | none =>
    have HNO : Shut (progE s = none) := ⟨by unfold progE; rw [if_pos q2, e1]⟩
    have HC := Shut.mk (implShort_no R s 2 W2 H2.out.1 hs e1)
    clear q2 e1
    go_wp2_with (go_at_call 41; refine HC.out.mono ?_; rintro e w1 ⟨rfl, hb1⟩)
    exact ⟨rfl, Or.inr ⟨HNO.out, rfl, (H2.out.below hb1).2.2.2.1⟩⟩
  | some x1 =>
  obtain ⟨p, a1⟩ := x1
  have HC2 := Shut.mk (implShort_yes R s 2 W2 H2.out.1 hs p a1 e1)
  go_upto_region 5 with (go_at_call 41; refine HC2.out.mono ?_; rintro e w1 ⟨rfl, ht1, hr1⟩; have H9 := Shut.mk (H2.out.turned ht1 hr1); clear ht1 hr1; obtain ⟨g1, g2⟩ := H9.out.got 1 _ rfl)
  obtain ⟨W3, hW3⟩ : ∃ W, W = w1.setCell ⟨w.heap.size + 1, 1, none⟩ (Value.string p) := ⟨_, rfl⟩
  rw [← hW3]
  have H3 : Shut (RE w W3 R w.heap.size (w.heap.size + 1) s a1 ⟨bt s 0, p, ⟨#[]⟩, 0, bt s 1⟩) := ⟨by rw [hW3]; exact H9.out.set 1 _ (by omega) rfl⟩
  clear hW3 H9 g1 g2 HC2 H2
  cases e2 : readShortI s (a1 : Nat) with
  | none =>
    have HNO : Shut (progE s = none) := ⟨by unfold progE; rw [if_pos q2, e1]; dsimp only; rw [e2]⟩
    have HC := Shut.mk (implShort_no R s a1 W3 H3.out.1 hs e2)
    clear q2 e1 e2
    go_wp2_with (go_at_call 41; refine HC.out.mono ?_; rintro e w1 ⟨rfl, hb1⟩)
    exact ⟨rfl, Or.inr ⟨HNO.out, rfl, (H3.out.below hb1).2.2.2.1⟩⟩
  | some x2 =>
  obtain ⟨t, a2⟩ := x2
  have HC3 := Shut.mk (implShort_yes R s a1 W3 H3.out.1 hs t a2 e2)
  go_upto_region 6 with (go_at_call 41; refine HC3.out.mono ?_; rintro e w1 ⟨rfl, ht1, hr1⟩; have H9 := Shut.mk (H3.out.turned ht1 hr1); clear ht1 hr1; obtain ⟨g1, g2⟩ := H9.out.got 2 _ rfl)
  obtain ⟨W4, hW4⟩ : ∃ W, W = w1.setCell ⟨w.heap.size + 1, 2, none⟩ (Value.string t) := ⟨_, rfl⟩
  rw [← hW4]
  have H4 : Shut (RE w W4 R w.heap.size (w.heap.size + 1) s a2 ⟨bt s 0, p, t, 0, bt s 1⟩) := ⟨by rw [hW4]; exact H9.out.set 2 _ (by omega) rfl⟩
  clear hW4 H9 g1 g2 HC3 H3
  cases e3 : readVarI s (a2 : Nat) with
  | none =>
    have HNO : Shut (progE s = none) := ⟨by unfold progE; rw [if_pos q2, e1]; dsimp only; rw [e2]; dsimp only; rw [e3]⟩
    have HC := Shut.mk (implNumber_no R s a2 W4 H4.out.1 hs e3)
    clear q2 e1 e2 e3
    go_wp2_with (go_at_call 42; refine HC.out.mono ?_; rintro e w1 ⟨rfl, hb1⟩)
    exact ⟨rfl, Or.inr ⟨HNO.out, rfl, (H4.out.below hb1).2.2.2.1⟩⟩
  | some x3 =>
  obtain ⟨n, a3⟩ := x3
  have HC4 := Shut.mk (implNumber_yes R s a2 W4 H4.out.1 hs n a3 e3)
  go_upto_region 7 with (go_at_call 42; refine HC4.out.mono ?_; rintro e w1 ⟨rfl, ht1, hr1⟩; have H9 := Shut.mk (H4.out.turned ht1 hr1); clear ht1 hr1; obtain ⟨g1, g2⟩ := H9.out.got 3 _ rfl)
  obtain ⟨W5, hW5⟩ : ∃ W, W = w1.setCell ⟨w.heap.size + 1, 3, none⟩ (Value.int .i64 (n : Nat)) := ⟨_, rfl⟩
  rw [← hW5]
  have H5 : Shut (RE w W5 R w.heap.size (w.heap.size + 1) s a3 ⟨bt s 0, p, t, (n : Nat), bt s 1⟩) := ⟨by rw [hW5]; exact H9.out.set 3 _ (by omega) rfl⟩
  clear hW5 H9 g1 g2 HC4 H4
  have hp : p.size ≤ 1048576 := by have := short_size s 2; rw [e1] at this; exact Nat.le_trans this (by omega)
  have htz : t.size ≤ 1048576 := by have := short_size s (a1 : Nat); rw [e2] at this; exact Nat.le_trans this (by omega)
  have HOK := Shut.mk (fun x => implEditOk ⟨bt s 0, p, t, (n : Nat), bt s 1⟩ x ⟨hp, htz⟩)
  have HPE : Shut (progE s = if (a3 = s.size ∧ editOk ⟨bt s 0, p, t, (n : Nat), bt s 1⟩ = true) then some ⟨bt s 0, p, t, (n : Nat), bt s 1⟩ else none) := ⟨by unfold progE; rw [if_pos q2, e1]; dsimp only; rw [e2]; dsimp only; rw [e3]⟩
  clear hp htz e1 e2 e3 q2
  by_cases ce : a3 = s.size
  case neg =>
    have HNO : Shut (progE s = none) := ⟨by rw [HPE.out, if_neg (fun hc => ce hc.1)]⟩
    have hd : (a3 == s.size) = false := by simp [ce]
    have hd2 : ((a3 : Int) == (s.size : Int)) = false := by simp; omega
    clear HPE ce HOK
    have HLE : Shut (∀ x, Later W5.drew x → x.cell? ⟨R, 0, none⟩ = some (.string s) ∧ x.cell? ⟨R, 1, none⟩ = some (.int .i64 (a3 : Nat)) ∧ x.cell? ⟨w.heap.size + 1, 0, none⟩ = some (.int .i64 (bt s 0)) ∧ x.cell? ⟨w.heap.size + 1, 1, none⟩ = some (.string p) ∧ x.cell? ⟨w.heap.size + 1, 2, none⟩ = some (.string t) ∧ x.cell? ⟨w.heap.size + 1, 3, none⟩ = some (.int .i64 (n : Nat)) ∧ x.cell? ⟨w.heap.size + 1, 4, none⟩ = some (.int .i64 (bt s 1))) := ⟨fun x hx => (H5.out.below (Below.trans (Below.drew (Below.refl _ _)) hx)).all⟩
    refine wp_region_later (by kernel_rfl) ?_
    refine wpL_val (i := 0) (v := ?vlen0) rfl (by kernel_rfl) (by kernel_rfl) (by kernel_rfl) (fun _ _ _ h => h) (by rfl) ?hylen0 ?restlen0
    case hylen0 => (intro x hx; go_simp; try with_reducible rfl)
    try simp only [Act.put, List.setIfInBounds_toArray, List.set_cons_zero, List.set_cons_succ]
    refine wpL_val (i := 1) (v := ?vlen1) rfl (by kernel_rfl) (by kernel_rfl) (by kernel_rfl) (fun _ _ _ h => h) (by rfl) ?hylen1 ?restlen1
    case hylen1 => (intro x hx; go_simp; try with_reducible rfl)
    try simp only [Act.put, List.setIfInBounds_toArray, List.set_cons_zero, List.set_cons_succ]
    refine wpL_val (i := 2) (v := ?vlen2) rfl (by kernel_rfl) (by kernel_rfl) (by kernel_rfl) (fun _ _ _ h => h) (by rfl) ?hylen2 ?restlen2
    case hylen2 => (intro x hx; go_simp; try with_reducible rfl)
    try simp only [Act.put, List.setIfInBounds_toArray, List.set_cons_zero, List.set_cons_succ]
    refine wpL_val (i := 3) (v := ?vlen3) rfl (by kernel_rfl) (by kernel_rfl) (by kernel_rfl) (fun _ _ _ h => h) (by rfl) ?hylen3 ?restlen3
    case hylen3 => (intro x hx; obtain ⟨d0, d1, c0, c1, c2, c3, c4⟩ := HLE.out x hx; go_simp; try with_reducible rfl)
    try simp only [Act.put, List.setIfInBounds_toArray, List.set_cons_zero, List.set_cons_succ]
    refine wpL_val (i := 4) (v := ?vlen4) rfl (by kernel_rfl) (by kernel_rfl) (by kernel_rfl) (fun _ _ _ h => h) (by rfl) ?hylen4 ?restlen4
    case hylen4 => (intro x hx; go_simp; try with_reducible rfl)
    try simp only [Act.put, List.setIfInBounds_toArray, List.set_cons_zero, List.set_cons_succ]
    refine wpL_val (i := 5) (v := ?vlen5) rfl (by kernel_rfl) (by kernel_rfl) (by kernel_rfl) (fun _ _ _ h => h) (by rfl) ?hylen5 ?restlen5
    case hylen5 => (intro x hx; go_simp; try with_reducible rfl)
    try simp only [Act.put, List.setIfInBounds_toArray, List.set_cons_zero, List.set_cons_succ]
    refine wpL_val (i := 6) (v := ?vlen6) rfl (by kernel_rfl) (by kernel_rfl) (by kernel_rfl) (fun _ _ _ h => h) (by rfl) ?hylen6 ?restlen6
    case hylen6 => (intro x hx; go_simp; try with_reducible rfl)
    try simp only [Act.put, List.setIfInBounds_toArray, List.set_cons_zero, List.set_cons_succ]
    refine wpL_val (i := 7) (v := ?vlen7) rfl (by kernel_rfl) (by kernel_rfl) (by kernel_rfl) (fun _ _ _ h => h) (by rfl) ?hylen7 ?restlen7
    case hylen7 => (intro x hx; obtain ⟨d0, d1, c0, c1, c2, c3, c4⟩ := HLE.out x hx; go_simp; try with_reducible rfl)
    try simp only [Act.put, List.setIfInBounds_toArray, List.set_cons_zero, List.set_cons_succ]
    refine wpL_val (i := 8) (v := ?vlen8) rfl (by kernel_rfl) (by kernel_rfl) (by kernel_rfl) (fun _ _ _ h => h) (by rfl) ?hylen8 ?restlen8
    case hylen8 => (intro x hx; go_simp; try with_reducible rfl)
    try simp only [Act.put, List.setIfInBounds_toArray, List.set_cons_zero, List.set_cons_succ]
    refine wpL_val (i := 9) (v := ?vlen9) rfl (by kernel_rfl) (by kernel_rfl) (by kernel_rfl) (fun _ _ _ h => h) (by rfl) ?hylen9 ?restlen9
    case hylen9 => (intro x hx; go_simp; try with_reducible rfl)
    try simp only [Act.put, List.setIfInBounds_toArray, List.set_cons_zero, List.set_cons_succ]
    refine wpL_val (i := 10) (v := ?vlen10) rfl (by kernel_rfl) (by kernel_rfl) (by kernel_rfl) (fun _ _ _ h => h) (by rfl) ?hylen10 ?restlen10
    case hylen10 => (intro x hx; go_simp; try with_reducible rfl)
    try simp only [Act.put, List.setIfInBounds_toArray, List.set_cons_zero, List.set_cons_succ]
    refine wpL_skip (i := 11) rfl (by kernel_rfl) (by kernel_rfl) (by kernel_rfl) (fun _ _ _ h => h) (by rfl) ?_
    try simp only [Act.put, List.setIfInBounds_toArray, List.set_cons_zero, List.set_cons_succ]
    refine wpL_skip (i := 12) rfl (by kernel_rfl) (by kernel_rfl) (by kernel_rfl) (fun _ _ _ h => h) (by rfl) ?_
    try simp only [Act.put, List.setIfInBounds_toArray, List.set_cons_zero, List.set_cons_succ]
    refine wpL_val (i := 13) (v := ?vlen13) rfl (by kernel_rfl) (by kernel_rfl) (by kernel_rfl) (fun _ _ _ h => h) (by rfl) ?hylen13 ?restlen13
    case hylen13 => (intro x hx; go_simp; try with_reducible rfl)
    try simp only [Act.put, List.setIfInBounds_toArray, List.set_cons_zero, List.set_cons_succ]
    refine wpL_panics (i := 14) (f := 43) (args := #[.bool false]) (chain := noRec) (by kernel_rfl) rfl (by rfl) ?hy14len ?hc14len
    case hy14len => (intro x hx; go_simp; try with_reducible rfl)
    intro x hx
    refine (implMust_no x).mono ?_
    rintro e y ⟨rfl, rfl⟩
    exact ⟨rfl, rfl, Or.inr ⟨HNO.out, rfl, (H5.out.below (Below.trans (Below.drew (Below.refl _ _)) hx)).2.2.2.1⟩⟩
  have hd : (a3 == s.size) = true := by simp [ce]
  have hd2 : ((a3 : Int) == (s.size : Int)) = true := by simp; omega
  have CE := Shut.mk ce
  clear ce
  cases ok : editOk ⟨bt s 0, p, t, (n : Nat), bt s 1⟩ with
  | false =>
    have HNO : Shut (progE s = none) := ⟨by rw [HPE.out, ok, if_neg (fun hc => by simp at hc)]⟩
    rw [ok] at HOK
    clear HPE ok
    have HLE : Shut (∀ x, Later W5.drew x → x.cell? ⟨R, 0, none⟩ = some (.string s) ∧ x.cell? ⟨R, 1, none⟩ = some (.int .i64 (a3 : Nat)) ∧ x.cell? ⟨w.heap.size + 1, 0, none⟩ = some (.int .i64 (bt s 0)) ∧ x.cell? ⟨w.heap.size + 1, 1, none⟩ = some (.string p) ∧ x.cell? ⟨w.heap.size + 1, 2, none⟩ = some (.string t) ∧ x.cell? ⟨w.heap.size + 1, 3, none⟩ = some (.int .i64 (n : Nat)) ∧ x.cell? ⟨w.heap.size + 1, 4, none⟩ = some (.int .i64 (bt s 1))) := ⟨fun x hx => (H5.out.below (Below.trans (Below.drew (Below.refl _ _)) hx)).all⟩
    refine wp_region_later (by kernel_rfl) ?_
    refine wpL_val (i := 0) (v := ?vbad0) rfl (by kernel_rfl) (by kernel_rfl) (by kernel_rfl) (fun _ _ _ h => h) (by rfl) ?hybad0 ?restbad0
    case hybad0 => (intro x hx; go_simp; try with_reducible rfl)
    try simp only [Act.put, List.setIfInBounds_toArray, List.set_cons_zero, List.set_cons_succ]
    refine wpL_val (i := 1) (v := ?vbad1) rfl (by kernel_rfl) (by kernel_rfl) (by kernel_rfl) (fun _ _ _ h => h) (by rfl) ?hybad1 ?restbad1
    case hybad1 => (intro x hx; go_simp; try with_reducible rfl)
    try simp only [Act.put, List.setIfInBounds_toArray, List.set_cons_zero, List.set_cons_succ]
    refine wpL_val (i := 2) (v := ?vbad2) rfl (by kernel_rfl) (by kernel_rfl) (by kernel_rfl) (fun _ _ _ h => h) (by rfl) ?hybad2 ?restbad2
    case hybad2 => (intro x hx; go_simp; try with_reducible rfl)
    try simp only [Act.put, List.setIfInBounds_toArray, List.set_cons_zero, List.set_cons_succ]
    refine wpL_val (i := 3) (v := ?vbad3) rfl (by kernel_rfl) (by kernel_rfl) (by kernel_rfl) (fun _ _ _ h => h) (by rfl) ?hybad3 ?restbad3
    case hybad3 => (intro x hx; obtain ⟨d0, d1, c0, c1, c2, c3, c4⟩ := HLE.out x hx; go_simp; try with_reducible rfl)
    try simp only [Act.put, List.setIfInBounds_toArray, List.set_cons_zero, List.set_cons_succ]
    refine wpL_val (i := 4) (v := ?vbad4) rfl (by kernel_rfl) (by kernel_rfl) (by kernel_rfl) (fun _ _ _ h => h) (by rfl) ?hybad4 ?restbad4
    case hybad4 => (intro x hx; go_simp; try with_reducible rfl)
    try simp only [Act.put, List.setIfInBounds_toArray, List.set_cons_zero, List.set_cons_succ]
    refine wpL_val (i := 5) (v := ?vbad5) rfl (by kernel_rfl) (by kernel_rfl) (by kernel_rfl) (fun _ _ _ h => h) (by rfl) ?hybad5 ?restbad5
    case hybad5 => (intro x hx; go_simp; try with_reducible rfl)
    try simp only [Act.put, List.setIfInBounds_toArray, List.set_cons_zero, List.set_cons_succ]
    refine wpL_val (i := 6) (v := ?vbad6) rfl (by kernel_rfl) (by kernel_rfl) (by kernel_rfl) (fun _ _ _ h => h) (by rfl) ?hybad6 ?restbad6
    case hybad6 => (intro x hx; go_simp; try with_reducible rfl)
    try simp only [Act.put, List.setIfInBounds_toArray, List.set_cons_zero, List.set_cons_succ]
    refine wpL_val (i := 7) (v := ?vbad7) rfl (by kernel_rfl) (by kernel_rfl) (by kernel_rfl) (fun _ _ _ h => h) (by rfl) ?hybad7 ?restbad7
    case hybad7 => (intro x hx; obtain ⟨d0, d1, c0, c1, c2, c3, c4⟩ := HLE.out x hx; go_simp; try with_reducible rfl)
    try simp only [Act.put, List.setIfInBounds_toArray, List.set_cons_zero, List.set_cons_succ]
    refine wpL_val (i := 8) (v := ?vbad8) rfl (by kernel_rfl) (by kernel_rfl) (by kernel_rfl) (fun _ _ _ h => h) (by rfl) ?hybad8 ?restbad8
    case hybad8 => (intro x hx; go_simp; try with_reducible rfl)
    try simp only [Act.put, List.setIfInBounds_toArray, List.set_cons_zero, List.set_cons_succ]
    refine wpL_val (i := 9) (v := ?vbad9) rfl (by kernel_rfl) (by kernel_rfl) (by kernel_rfl) (fun _ _ _ h => h) (by rfl) ?hybad9 ?restbad9
    case hybad9 => (intro x hx; go_simp; try with_reducible rfl)
    try simp only [Act.put, List.setIfInBounds_toArray, List.set_cons_zero, List.set_cons_succ]
    refine wpL_val (i := 10) (v := ?vbad10) rfl (by kernel_rfl) (by kernel_rfl) (by kernel_rfl) (fun _ _ _ h => h) (by rfl) ?hybad10 ?restbad10
    case hybad10 => (intro x hx; go_simp; try with_reducible rfl)
    try simp only [Act.put, List.setIfInBounds_toArray, List.set_cons_zero, List.set_cons_succ]
    refine wpL_val (i := 11) (v := ?vbad11) rfl (by kernel_rfl) (by kernel_rfl) (by kernel_rfl) (fun _ _ _ h => h) (by rfl) ?hybad11 ?restbad11
    case hybad11 => (intro x hx; obtain ⟨d0, d1, c0, c1, c2, c3, c4⟩ := HLE.out x hx; go_simp; try with_reducible rfl)
    try simp only [Act.put, List.setIfInBounds_toArray, List.set_cons_zero, List.set_cons_succ]
    refine wpL_call (i := 12) (v := .bool false) (f := 12) (args := #[ev ⟨bt s 0, p, t, (n : Nat), bt s 1⟩]) rfl (by kernel_rfl) (by kernel_rfl) (by kernel_rfl) (fun _ _ _ h => h) (by rfl) ?hybad12 (fun x _ => HOK.out x) ?restbad12
    case hybad12 => (intro x hx; obtain ⟨d0, d1, c0, c1, c2, c3, c4⟩ := HLE.out x hx; go_simp; try with_reducible rfl)
    try simp only [Act.put, List.setIfInBounds_toArray, List.set_cons_zero, List.set_cons_succ]
    refine wpL_val (i := 13) (v := ?vbad13) rfl (by kernel_rfl) (by kernel_rfl) (by kernel_rfl) (fun _ _ _ h => h) (by rfl) ?hybad13 ?restbad13
    case hybad13 => (intro x hx; go_simp; try with_reducible rfl)
    try simp only [Act.put, List.setIfInBounds_toArray, List.set_cons_zero, List.set_cons_succ]
    refine wpL_panics (i := 14) (f := 43) (args := #[.bool false]) (chain := noRec) (by kernel_rfl) rfl (by rfl) ?hy14bad ?hc14bad
    case hy14bad => (intro x hx; go_simp; try with_reducible rfl)
    intro x hx
    refine (implMust_no x).mono ?_
    rintro e y ⟨rfl, rfl⟩
    exact ⟨rfl, rfl, Or.inr ⟨HNO.out, rfl, (H5.out.below (Below.trans (Below.drew (Below.refl _ _)) hx)).2.2.2.1⟩⟩
  | true =>
    have HYES : Shut (progE s = some ⟨bt s 0, p, t, (n : Nat), bt s 1⟩) := ⟨by rw [HPE.out, ok, if_pos ⟨CE.out, rfl⟩]⟩
    rw [ok] at HOK
    clear HPE ok
    have HLE : Shut (∀ x, Later W5.drew x → x.cell? ⟨R, 0, none⟩ = some (.string s) ∧ x.cell? ⟨R, 1, none⟩ = some (.int .i64 (a3 : Nat)) ∧ x.cell? ⟨w.heap.size + 1, 0, none⟩ = some (.int .i64 (bt s 0)) ∧ x.cell? ⟨w.heap.size + 1, 1, none⟩ = some (.string p) ∧ x.cell? ⟨w.heap.size + 1, 2, none⟩ = some (.string t) ∧ x.cell? ⟨w.heap.size + 1, 3, none⟩ = some (.int .i64 (n : Nat)) ∧ x.cell? ⟨w.heap.size + 1, 4, none⟩ = some (.int .i64 (bt s 1))) := ⟨fun x hx => (H5.out.below (Below.trans (Below.drew (Below.refl _ _)) hx)).all⟩
    refine wp_region_later (by kernel_rfl) ?_
    refine wpL_val (i := 0) (v := ?vyes0) rfl (by kernel_rfl) (by kernel_rfl) (by kernel_rfl) (fun _ _ _ h => h) (by rfl) ?hyyes0 ?restyes0
    case hyyes0 => (intro x hx; go_simp; try with_reducible rfl)
    try simp only [Act.put, List.setIfInBounds_toArray, List.set_cons_zero, List.set_cons_succ]
    refine wpL_val (i := 1) (v := ?vyes1) rfl (by kernel_rfl) (by kernel_rfl) (by kernel_rfl) (fun _ _ _ h => h) (by rfl) ?hyyes1 ?restyes1
    case hyyes1 => (intro x hx; go_simp; try with_reducible rfl)
    try simp only [Act.put, List.setIfInBounds_toArray, List.set_cons_zero, List.set_cons_succ]
    refine wpL_val (i := 2) (v := ?vyes2) rfl (by kernel_rfl) (by kernel_rfl) (by kernel_rfl) (fun _ _ _ h => h) (by rfl) ?hyyes2 ?restyes2
    case hyyes2 => (intro x hx; go_simp; try with_reducible rfl)
    try simp only [Act.put, List.setIfInBounds_toArray, List.set_cons_zero, List.set_cons_succ]
    refine wpL_val (i := 3) (v := ?vyes3) rfl (by kernel_rfl) (by kernel_rfl) (by kernel_rfl) (fun _ _ _ h => h) (by rfl) ?hyyes3 ?restyes3
    case hyyes3 => (intro x hx; obtain ⟨d0, d1, c0, c1, c2, c3, c4⟩ := HLE.out x hx; go_simp; try with_reducible rfl)
    try simp only [Act.put, List.setIfInBounds_toArray, List.set_cons_zero, List.set_cons_succ]
    refine wpL_val (i := 4) (v := ?vyes4) rfl (by kernel_rfl) (by kernel_rfl) (by kernel_rfl) (fun _ _ _ h => h) (by rfl) ?hyyes4 ?restyes4
    case hyyes4 => (intro x hx; go_simp; try with_reducible rfl)
    try simp only [Act.put, List.setIfInBounds_toArray, List.set_cons_zero, List.set_cons_succ]
    refine wpL_val (i := 5) (v := ?vyes5) rfl (by kernel_rfl) (by kernel_rfl) (by kernel_rfl) (fun _ _ _ h => h) (by rfl) ?hyyes5 ?restyes5
    case hyyes5 => (intro x hx; go_simp; try with_reducible rfl)
    try simp only [Act.put, List.setIfInBounds_toArray, List.set_cons_zero, List.set_cons_succ]
    refine wpL_val (i := 6) (v := ?vyes6) rfl (by kernel_rfl) (by kernel_rfl) (by kernel_rfl) (fun _ _ _ h => h) (by rfl) ?hyyes6 ?restyes6
    case hyyes6 => (intro x hx; go_simp; try with_reducible rfl)
    try simp only [Act.put, List.setIfInBounds_toArray, List.set_cons_zero, List.set_cons_succ]
    refine wpL_val (i := 7) (v := ?vyes7) rfl (by kernel_rfl) (by kernel_rfl) (by kernel_rfl) (fun _ _ _ h => h) (by rfl) ?hyyes7 ?restyes7
    case hyyes7 => (intro x hx; obtain ⟨d0, d1, c0, c1, c2, c3, c4⟩ := HLE.out x hx; go_simp; try with_reducible rfl)
    try simp only [Act.put, List.setIfInBounds_toArray, List.set_cons_zero, List.set_cons_succ]
    refine wpL_val (i := 8) (v := ?vyes8) rfl (by kernel_rfl) (by kernel_rfl) (by kernel_rfl) (fun _ _ _ h => h) (by rfl) ?hyyes8 ?restyes8
    case hyyes8 => (intro x hx; go_simp; try with_reducible rfl)
    try simp only [Act.put, List.setIfInBounds_toArray, List.set_cons_zero, List.set_cons_succ]
    refine wpL_val (i := 9) (v := ?vyes9) rfl (by kernel_rfl) (by kernel_rfl) (by kernel_rfl) (fun _ _ _ h => h) (by rfl) ?hyyes9 ?restyes9
    case hyyes9 => (intro x hx; go_simp; try with_reducible rfl)
    try simp only [Act.put, List.setIfInBounds_toArray, List.set_cons_zero, List.set_cons_succ]
    refine wpL_val (i := 10) (v := ?vyes10) rfl (by kernel_rfl) (by kernel_rfl) (by kernel_rfl) (fun _ _ _ h => h) (by rfl) ?hyyes10 ?restyes10
    case hyyes10 => (intro x hx; go_simp; try with_reducible rfl)
    try simp only [Act.put, List.setIfInBounds_toArray, List.set_cons_zero, List.set_cons_succ]
    refine wpL_val (i := 11) (v := ?vyes11) rfl (by kernel_rfl) (by kernel_rfl) (by kernel_rfl) (fun _ _ _ h => h) (by rfl) ?hyyes11 ?restyes11
    case hyyes11 => (intro x hx; obtain ⟨d0, d1, c0, c1, c2, c3, c4⟩ := HLE.out x hx; go_simp; try with_reducible rfl)
    try simp only [Act.put, List.setIfInBounds_toArray, List.set_cons_zero, List.set_cons_succ]
    refine wpL_call (i := 12) (v := .bool true) (f := 12) (args := #[ev ⟨bt s 0, p, t, (n : Nat), bt s 1⟩]) rfl (by kernel_rfl) (by kernel_rfl) (by kernel_rfl) (fun _ _ _ h => h) (by rfl) ?hyyes12 (fun x _ => HOK.out x) ?restyes12
    case hyyes12 => (intro x hx; obtain ⟨d0, d1, c0, c1, c2, c3, c4⟩ := HLE.out x hx; go_simp; try with_reducible rfl)
    try simp only [Act.put, List.setIfInBounds_toArray, List.set_cons_zero, List.set_cons_succ]
    refine wpL_val (i := 13) (v := ?vyes13) rfl (by kernel_rfl) (by kernel_rfl) (by kernel_rfl) (fun _ _ _ h => h) (by rfl) ?hyyes13 ?restyes13
    case hyyes13 => (intro x hx; go_simp; try with_reducible rfl)
    try simp only [Act.put, List.setIfInBounds_toArray, List.set_cons_zero, List.set_cons_succ]
    refine wpL_call (i := 14) (v := .tuple #[]) (f := 43) (args := #[.bool true]) rfl (by kernel_rfl) (by kernel_rfl) (by kernel_rfl) (fun _ _ _ h => h) (by rfl) ?hyyes14 (fun x _ => must_yes x) ?restyes14
    case hyyes14 => (intro x hx; obtain ⟨d0, d1, c0, c1, c2, c3, c4⟩ := HLE.out x hx; go_simp; try with_reducible rfl)
    try simp only [Act.put, List.setIfInBounds_toArray, List.set_cons_zero, List.set_cons_succ]
    refine wpL_done (by kernel_rfl) ?_ _
    intro y hy
    have H6 := Shut.mk (H5.out.below (Below.trans (Below.drew (Below.refl _ _)) hy))
    have g0 := H6.out.all
    obtain ⟨-, -, c0, c1, c2, c3, c4⟩ := g0
    have z0 := H6.out.2.1.2 0 _ rfl
    have z1 := H6.out.2.1.2 1 _ rfl
    have z2 := H6.out.2.1.2 2 _ rfl
    have z3 := H6.out.2.1.2 3 _ rfl
    have z4 := H6.out.2.1.2 4 _ rfl
    obtain ⟨y0, z0⟩ := z0
    obtain ⟨y1, z1⟩ := z1
    obtain ⟨y2, z2⟩ := z2
    obtain ⟨y3, z3⟩ := z3
    obtain ⟨y4, z4⟩ := z4
    dsimp only at c0 c1 c2 c3 c4
    have hAh := H6.out.2.1.1
    clear hy HLE
    go_wp2_with fail
    have HP := Shut.mk (H6.out.put ⟨bt s 0, p, t, (n : Nat), bt s 1⟩)
    have HQ := Shut.mk (put5_cells H6.out.2.1 ⟨bt s 0, p, t, (n : Nat), bt s 1⟩)
    change bodyPost _ _ _ _ _ (put5 y w.heap.size ⟨bt s 0, p, t, (n : Nat), bt s 1⟩)
    generalize put5 y w.heap.size ⟨bt s 0, p, t, (n : Nat), bt s 1⟩ = w8 at HP HQ ⊢
    obtain ⟨k0, -⟩ := HQ.out.2 0 _ rfl
    obtain ⟨k1, -⟩ := HQ.out.2 1 _ rfl
    obtain ⟨k2, -⟩ := HQ.out.2 2 _ rfl
    obtain ⟨k3, -⟩ := HQ.out.2 3 _ rfl
    obtain ⟨k4, -⟩ := HQ.out.2 4 _ rfl
    dsimp only at k0 k1 k2 k3 k4
    refine bodyPost_ret (v := ev ⟨bt s 0, p, t, (n : Nat), bt s 1⟩) (by simp [results, Try.results24, go_sem, k0, k1, k2, k3, k4]) rfl (Or.inl ⟨_, HYES.out, rfl, HP.out⟩)
end Go.Proofs.Ytdglbakdianjkaa
/- EdW: The program's own ReadEdit: what gives up is caught. -/
namespace Go.Proofs.Ytdglbakdianjkaa
open Go.RowKit
attribute [local go_sem ↓] Go.wp_at_zero Go.wp_at_succ

set_option maxHeartbeats 1000000 in
theorem catch_panicking (E O : Nat) (X : EM) (b : Bool) (u : TypeId) (pv : Value) (older : List PanicEntry) (w : World) (hE : WCells w E (ecells X)) (hO : WCells w O [.bool b]) (hne : E ≠ O) :
    CallsD Try.prog 23 #[.pointer (some ⟨E, 0, none⟩), .pointer (some ⟨O, 0, none⟩)] (.panicking ({ v := .iface u pv, recovered := false } :: older)) w fun e u' w' =>
      e = .returned (.tuple #[]) ∧ u' = .panicking ({ v := .iface u pv, recovered := true } :: older) ∧ w' = (put5 w E zeroE).setCell ⟨O, 0, none⟩ (.bool false) := by
  obtain ⟨a0, b0⟩ := hE.2 0 _ rfl
  obtain ⟨a1, b1⟩ := hE.2 1 _ rfl
  obtain ⟨a2, b2⟩ := hE.2 2 _ rfl
  obtain ⟨a3, b3⟩ := hE.2 3 _ rfl
  obtain ⟨a4, b4⟩ := hE.2 4 _ rfl
  have hO2 : WCells (put5 w E zeroE) O [.bool b] := ((((hO.other ⟨E, 0, none⟩ _ (Ne.symm hne)).other ⟨E, 1, none⟩ _ (Ne.symm hne)).other ⟨E, 2, none⟩ _ (Ne.symm hne)).other ⟨E, 3, none⟩ _ (Ne.symm hne)).other ⟨E, 4, none⟩ _ (Ne.symm hne)
  obtain ⟨o0, o1⟩ := hO2.2 0 _ rfl
  clear hE hO hO2
  refine callsD_of_wpS Try.func23 rfl fun c₀ cs hu => ?_
  apply wpS_seq
  apply wpS_region
  simp [wpOpsS, go_sem, recoverD, hu, Try.ntmps23, Exit.thenS]
  refine wpS_cond (t := true) (by simp [Act.eval, Array.replicate]) ?_
  simp only [if_true]
  unfold put5 zeroE at o0 o1
  dsimp only at o0 o1
  refine wpS_of_wp ?_
  have e : (#[Value.pointer (some ⟨E, 0, none⟩), Value.pointer (some ⟨O, 0, none⟩)] ++ ((Array.replicate 3 undef).setIfInBounds 0 (Value.iface u pv)).setIfInBounds 1 (Value.bool true)) = #[Value.pointer (some ⟨E, 0, none⟩), Value.pointer (some ⟨O, 0, none⟩), Value.iface u pv, Value.bool true, undef] := by simp [Array.replicate]
  rw [e]
  go_wp2_with fail
  simp [bodyPostS, results, Try.results23, go_sem]
  rfl
theorem catch_idle (E O : Nat) (w : World) :
    CallsD Try.prog 23 #[.pointer (some ⟨E, 0, none⟩), .pointer (some ⟨O, 0, none⟩)] .returning w fun e u' w' => e = .returned (.tuple #[]) ∧ u' = .returning ∧ w' = w := by
  refine callsD_of_wpS Try.func23 rfl fun c₀ cs hu => ?_
  apply wpS_seq
  apply wpS_region
  simp [wpOpsS, go_sem, recoverD, hu, Try.ntmps23, Exit.thenS]
  refine wpS_cond (t := false) (by simp [Act.eval, Array.replicate]) ?_
  simp only [Bool.false_eq_true, if_false]
  refine wpS_of_wp (wp_skip ?_)
  cases c₀
  simp_all [bodyPostS, results, Try.results23]
theorem readE_new (w : World) (s : ByteArray) (T T' T'' : TypeId) :
    ∀ W, W = ((w.alloc (.cells #[.int .i64 0, .string ⟨#[]⟩, .string ⟨#[]⟩, .int .i64 0, .int .i64 0] T)).alloc (.cells #[.bool false] T')).alloc (.cells #[.string s, .int .i64 0] T'') →
      WCells W w.heap.size (ecells zeroE) ∧ WCells W (w.heap.size + 1) [.bool false] ∧ RdC W (w.heap.size + 1 + 1) s 0 ∧ Below w.heap.size w W := by
  rintro W rfl
  have h1 := wcells_new w #[.int .i64 0, .string ⟨#[]⟩, .string ⟨#[]⟩, .int .i64 0, .int .i64 0] T
  have h2 := wcells_new (w.alloc (.cells #[.int .i64 0, .string ⟨#[]⟩, .string ⟨#[]⟩, .int .i64 0, .int .i64 0] T)) #[.bool false] T'
  have h3 := wcells_new ((w.alloc (.cells #[.int .i64 0, .string ⟨#[]⟩, .string ⟨#[]⟩, .int .i64 0, .int .i64 0] T)).alloc (.cells #[.bool false] T')) #[.string s, .int .i64 0] T''
  have e1 : (w.alloc (.cells #[.int .i64 0, .string ⟨#[]⟩, .string ⟨#[]⟩, .int .i64 0, .int .i64 0] T)).heap.size = w.heap.size + 1 := by simp
  have e2 : ((w.alloc (.cells #[.int .i64 0, .string ⟨#[]⟩, .string ⟨#[]⟩, .int .i64 0, .int .i64 0] T)).alloc (.cells #[.bool false] T')).heap.size = w.heap.size + 1 + 1 := by simp
  rw [e1] at h2
  rw [e2] at h3
  exact ⟨(h1.alloc _).alloc _, h2.alloc _, h3, ((((Below.refl _ _).alloc (Nat.le_refl _) _).alloc (by simp) _).alloc (by simp; omega) _)⟩
theorem put5_other {w : World} {A B : Nat} {L : List Value} (h : WCells w B L) (hne : B ≠ A) (Z : EM) : WCells (put5 w A Z) B L :=
  ((((h.other ⟨A, 0, none⟩ _ hne).other ⟨A, 1, none⟩ _ hne).other ⟨A, 2, none⟩ _ hne).other ⟨A, 3, none⟩ _ hne).other ⟨A, 4, none⟩ _ hne
theorem put5_below {w w' : World} {A B : Nat} (h : Below B w w') (hA : B ≤ A) (Z : EM) : Below B w (put5 w' A Z) :=
  ((((h.setCell (p := ⟨A, 0, none⟩) hA _).setCell (p := ⟨A, 1, none⟩) hA _).setCell (p := ⟨A, 2, none⟩) hA _).setCell (p := ⟨A, 3, none⟩) hA _).setCell (p := ⟨A, 4, none⟩) hA _
set_option maxHeartbeats 1000000 in
theorem implReadEdit (s : ByteArray) (w : World) (hs : s.size ≤ 1048576) : Calls Try.prog 10 #[.string s] w fun r w' => r = .returned (.tuple #[ev (readE s).1, .bool (readE s).2]) ∧ Below w.heap.size w w' := by
  have hmf : ∀ (fn : Fn) (first cap : Array Value) (w : World), (Instr.makeFunc fn first cap).run Try.prog w = .ok (.func fn first cap) w := fun _ _ _ _ => rfl
  have HRE := Shut.mk (readE_prog s)
  go_enter_defers Try.func10, Try.ntmps10
  go_upto_region 3 with fail
  obtain ⟨W0, hW0⟩ : ∃ W0, W0 = ((w.alloc (.cells #[.int .i64 0, .string ⟨#[]⟩, .string ⟨#[]⟩, .int .i64 0, .int .i64 0] 25)).alloc (.cells #[.bool false] 4)).alloc (.cells #[.string s, .int .i64 0] 45) := ⟨_, rfl⟩
  have HN := Shut.mk (readE_new w s _ _ _ W0 hW0)
  rw [← hW0]
  clear hW0
  have HE := Shut.mk (implEdit (w.heap.size + 1 + 1) s W0 HN.out.2.2.1 hs)
  unfold EdPost at HE
  cases hp : progE s with
  | none =>
    rw [hp] at HRE HE
    clear hp
    go_wp2_with (go_at_call 24; refine HE.out.mono ?_; rintro e w1 (⟨X, hx, he, ht⟩ | ⟨-, rfl, ht⟩); (cases hx))
    have hE := HN.out.1.turned ht (by omega)
    have hO := HN.out.2.1.turned ht (by omega)
    refine leaves_cons (f := 23) (args := #[.pointer (some ⟨w.heap.size, 0, none⟩), .pointer (some ⟨w.heap.size + 1, 0, none⟩)]) (by simp) (by simp [go_sem]) ?_
    refine (catch_panicking w.heap.size (w.heap.size + 1) zeroE false _ _ [] _ hE hO (by omega)).mono ?_
    rintro e u' w'' ⟨rfl, rfl, rfl⟩
    have kE := (put5_cells hE zeroE).other ⟨w.heap.size + 1, 0, none⟩ (.bool false) (by show _ ≠ w.heap.size + 1; omega)
    have kO := (put5_other hO (by omega : w.heap.size + 1 ≠ w.heap.size) zeroE).set 0 (.bool false) (by simp)
    have kB := (put5_below (HN.out.2.2.2.trans (ht.below (by omega) HN.out.2.2.2.size)) (Nat.le_refl _) zeroE).setCell (p := ⟨w.heap.size + 1, 0, none⟩) (Nat.le_succ _) (.bool false)
    generalize (put5 w1 w.heap.size zeroE).setCell ⟨w.heap.size + 1, 0, none⟩ (.bool false) = w9 at kE kO kB ⊢
    obtain ⟨k0, -⟩ := kE.2 0 _ rfl
    obtain ⟨k1, -⟩ := kE.2 1 _ rfl
    obtain ⟨k2, -⟩ := kE.2 2 _ rfl
    obtain ⟨k3, -⟩ := kE.2 3 _ rfl
    obtain ⟨k4, -⟩ := kE.2 4 _ rfl
    obtain ⟨k5, -⟩ := kO.2 0 _ rfl
    have hr : readE s = (zeroE, false) := HRE.out
    rw [hr]
    simp [Leaves, settle, results, Try.results10, go_sem, k0, k1, k2, k3, k4, k5, kB]
  | some X =>
    rw [hp] at HRE HE
    clear hp
    obtain ⟨kind, path, dest, num, who⟩ := X
    go_wp2_with (go_at_call 24; refine HE.out.mono ?_; rintro e w1 (⟨Y, hx, rfl, ht⟩ | ⟨hx, -⟩); rotate_left; (cases hx); cases hx; have hE := Shut.mk (HN.out.1.turned ht (by omega)); have hO := Shut.mk (HN.out.2.1.turned ht (by omega)); have hT := Shut.mk ht; clear ht; obtain ⟨a0, b0⟩ := hE.out.2 0 _ rfl; obtain ⟨a1, b1⟩ := hE.out.2 1 _ rfl; obtain ⟨a2, b2⟩ := hE.out.2 2 _ rfl; obtain ⟨a3, b3⟩ := hE.out.2 3 _ rfl; obtain ⟨a4, b4⟩ := hE.out.2 4 _ rfl; have hO2 := put5_other hO.out (by omega : w.heap.size + 1 ≠ w.heap.size) ⟨kind, path, dest, num, who⟩; obtain ⟨a5, b5⟩ := hO2.2 0 _ rfl; unfold put5 at a5 b5; dsimp only at a5 b5; clear hO2)
    refine leaves_cons (f := 23) (args := #[.pointer (some ⟨w.heap.size, 0, none⟩), .pointer (some ⟨w.heap.size + 1, 0, none⟩)]) (by simp) (by simp [go_sem]) ?_
    refine (catch_idle w.heap.size (w.heap.size + 1) _).mono ?_
    rintro e u' w'' ⟨rfl, rfl, rfl⟩
    have kE := (put5_cells hE.out ⟨kind, path, dest, num, who⟩).other ⟨w.heap.size + 1, 0, none⟩ (.bool true) (by show _ ≠ w.heap.size + 1; omega)
    have kO := (put5_other hO.out (by omega : w.heap.size + 1 ≠ w.heap.size) ⟨kind, path, dest, num, who⟩).set 0 (.bool true) (by simp)
    have kB := (put5_below (HN.out.2.2.2.trans (hT.out.below (by omega) HN.out.2.2.2.size)) (Nat.le_refl _) ⟨kind, path, dest, num, who⟩).setCell (p := ⟨w.heap.size + 1, 0, none⟩) (Nat.le_succ _) (.bool true)
    unfold put5 at kE kO kB
    dsimp only at kE kO kB
    generalize (World.setCell _ ⟨w.heap.size + 1, 0, none⟩ (.bool true)) = w9 at kE kO kB ⊢
    obtain ⟨k0, -⟩ := kE.2 0 _ rfl
    obtain ⟨k1, -⟩ := kE.2 1 _ rfl
    obtain ⟨k2, -⟩ := kE.2 2 _ rfl
    obtain ⟨k3, -⟩ := kE.2 3 _ rfl
    obtain ⟨k4, -⟩ := kE.2 4 _ rfl
    obtain ⟨k5, -⟩ := kO.2 0 _ rfl
    have hr : readE s = (⟨kind, path, dest, num, who⟩, true) := HRE.out
    rw [hr]
    simp [Leaves, settle, results, Try.results10, go_sem, k0, k1, k2, k3, k4, k5, kB]
end Go.Proofs.Ytdglbakdianjkaa
/- LawRec: The law over records, and the draw of a text that it wants. -/
namespace Go.Proofs.Ytdglbakdianjkaa
open Go.RowKit
attribute [local go_sem ↓] Go.wp_at_zero Go.wp_at_succ

set_option maxHeartbeats 1000000 in
theorem drawReadEdit_any (w : World) (a : Option Addr) (len cap : Nat) (hc : CodeAt w w.heap.size a len) : Calls Try.prog 13 #[.slice a len cap] w fun e w' => TxCode w e w' := by
  have HC : Hid (CodeAt w w.heap.size a len) := hc
  clear hc
  go_enter Try.func13, Try.ntmps13
  go_upto_region 3 with (first
    | (go_at_call 20; refine (l01New_any _ a len cap HC.out).mono ?_; rintro e w1 ⟨g, rfl, hg, hcur, hb0⟩; have HG := Shut.mk hg; have HC1 := Shut.mk hcur; have HB1 := Shut.mk hb0; clear hg hcur hb0)
    | (go_at_call 19; refine (l11Any_any _ g _ a len cap HC1.out).mono ?_; rintro e w2 ⟨X, rfl, hp, hc2, hg2⟩; have HP := Shut.mk hp; have HB2 := Shut.mk (HB1.out.trans (below_gb hg2 HG.out HB1.out.size)); have HC2 := Shut.mk hc2; clear hp hc2 hg2)
    | (go_at_call 17; refine (specEditText X _ HP.out.fit).mono ?_; rintro e w3 ⟨rfl, hb3⟩; have HB3 := Shut.mk (HB2.out.trans (hb3.mono HB2.out.size)); have HC3 := Shut.mk (HC2.out.below hb3); clear hb3))
  obtain ⟨s, hs⟩ : ∃ s, s = (if editOk X then editT X else ⟨#[]⟩) := ⟨_, rfl⟩
  have hsz : s.size ≤ 100000 := by
    rw [hs]
    split
    · rename_i h; exact editT_size h
    · exact Nat.zero_le _
  rw [← hs]
  clear hs
  go_upto_if 15 with (go_at_call 31; refine (l01Once_any _ g _ a len cap 2 (by omega) HC3.out).mono ?_; rintro e w4 ⟨b, rfl, hc4, hg4⟩; have HB4 := Shut.mk (HB3.out.trans (below_gb hg4 HG.out HB3.out.size)); have HC4 := Shut.mk hc4; clear hc4 hg4)
  cases b with
  | true =>
    go_wp2_with (go_at_call 32; refine (l02Spoilt_any s hsz _ g _ a len cap HC4.out).mono ?_; rintro e w5 ⟨t, rfl, ht, hc5, hg5⟩; have HB5 := Shut.mk (HB4.out.trans (below_gb hg5 HG.out HB4.out.size)); clear hc5 hg5)
    go_ret
    exact ⟨t, rfl, by omega, HB5.out⟩
  | false =>
    go_wp2_with fail
    go_ret
    exact ⟨s, rfl, by omega, HB4.out⟩
theorem ec_box (w : World) (e : EM) (T : TypeId) {w' : World} (hb : Below (w.heap.size + 1) (w.alloc (.cells #[.int .i64 e.kind, .string e.path, .string e.dest, .int .i64 e.num, .int .i64 e.who] T)) w') : w'.cell? ⟨w.heap.size, 0, none⟩ = some (.int .i64 e.kind) ∧ w'.cell? ⟨w.heap.size, 1, none⟩ = some (.string e.path) ∧ w'.cell? ⟨w.heap.size, 2, none⟩ = some (.string e.dest) ∧ w'.cell? ⟨w.heap.size, 3, none⟩ = some (.int .i64 e.num) ∧ w'.cell? ⟨w.heap.size, 4, none⟩ = some (.int .i64 e.who) := by
  have h := (wcells_new w #[.int .i64 e.kind, .string e.path, .string e.dest, .int .i64 e.num, .int .i64 e.who] T).below hb (Nat.lt_succ_self _)
  exact ⟨(h.2 0 _ rfl).1, (h.2 1 _ rfl).1, (h.2 2 _ rfl).1, (h.2 3 _ rfl).1, (h.2 4 _ rfl).1⟩
set_option maxRecDepth 1000000 in
set_option maxHeartbeats 4000000 in
theorem records_walk (a : Option Addr) (len cap : Nat) (w : World) (hcode : CodeAt w w.heap.size a len) :
    Calls Try.prog 3 #[.slice a len cap] w fun e w' => e = .returned (.bool true) ∧ Below w.heap.size w w' := by
  have hbig : decide ((1048576 : Int) < (len : Int)) = false := by have := hcode.1; simp; omega
  have HC : Hid (CodeAt w w.heap.size a len) := hcode
  clear hcode
  go_enter Try.func3, Try.ntmps3
  go_wp2_with fail
  refine (big_any a len cap _).mono ?_
  rintro e w1 ⟨rfl, hw1⟩
  obtain rfl : w = w1 := hw1.symm
  clear hw1
  rw [hbig]
  go_upto_region 4 with (go_at_call 8; refine (drawEditText_any _ a len cap HC.out).mono ?_; rintro e w1 ⟨⟨kind, path, dest, num, who⟩, rfl, hp, hb1⟩; have HP := Shut.mk hp; have HB1 := Shut.mk hb1; clear hp hb1)
  have HW : Shut (WCells (w1.alloc (.cells #[.int .i64 kind, .string path, .string dest, .int .i64 num, .int .i64 who] 25)) w1.heap.size (ecells ⟨kind, path, dest, num, who⟩) ∧ Below w.heap.size w (w1.alloc (.cells #[.int .i64 kind, .string path, .string dest, .int .i64 num, .int .i64 who] 25))) := ⟨wcells_new w1 #[.int .i64 kind, .string path, .string dest, .int .i64 num, .int .i64 who] 25, HB1.out.alloc HB1.out.size _⟩
  generalize w1.alloc (.cells #[.int .i64 kind, .string path, .string dest, .int .i64 num, .int .i64 who] 25) = W1 at HW ⊢
  generalize w1.heap.size = b1 at HW ⊢
  clear HB1
  obtain ⟨c0, -⟩ := HW.out.1.2 0 _ rfl
  obtain ⟨c1, -⟩ := HW.out.1.2 1 _ rfl
  obtain ⟨c2, -⟩ := HW.out.1.2 2 _ rfl
  obtain ⟨c3, -⟩ := HW.out.1.2 3 _ rfl
  obtain ⟨c4, -⟩ := HW.out.1.2 4 _ rfl
  dsimp only at c0 c1 c2 c3 c4
  have HT := Shut.mk (fun x => implEditText ⟨kind, path, dest, num, who⟩ x HP.out.fit)
  have HO1 := Shut.mk (fun x => specEditOk ⟨kind, path, dest, num, who⟩ x HP.out.fit)
  have HO2 := Shut.mk (fun x => implEditOk ⟨kind, path, dest, num, who⟩ x HP.out.fit)
  obtain ⟨s, hs⟩ : ∃ s, s = (if editOk ⟨kind, path, dest, num, who⟩ then editT ⟨kind, path, dest, num, who⟩ else ⟨#[]⟩) := ⟨_, rfl⟩
  have hsz : s.size ≤ 1048576 := by
    rw [hs]
    split
    · rename_i h; exact Nat.le_trans (editT_size h) (by omega)
    · exact Nat.zero_le _
  rw [← hs] at HT
  have HR := Shut.mk (fun x => implReadEdit s x hsz)
  have HRE : Shut (readE s = if editOk ⟨kind, path, dest, num, who⟩ then (⟨kind, path, dest, num, who⟩, true) else (zeroE, false)) := ⟨by
    rw [hs]
    split
    · rename_i h; exact read_back h
    · rfl⟩
  generalize editOk ⟨kind, path, dest, num, who⟩ = ok at HT HO1 HO2 HRE
  clear hs
  obtain ⟨X, hX⟩ : ∃ X, X = (readE s).1 := ⟨_, rfl⟩
  obtain ⟨rt, hrt⟩ : ∃ rt, rt = (readE s).2 := ⟨_, rfl⟩
  rw [← hX, ← hrt] at HR
  have HRE2 : Shut ((X, rt) = if ok then ((⟨kind, path, dest, num, who⟩ : EM), true) else (zeroE, false)) := ⟨by rw [hX, hrt]; exact HRE.out⟩
  clear hX hrt HRE hsz
  obtain ⟨kx, px, dx, nx, wx⟩ := X
  go_upto_region 6 with (first
    | (go_at_call 9; refine (HT.out _).mono ?_; rintro e w2 ⟨rfl, hb2⟩; replace HW := Shut.mk (And.intro (HW.out.1.grow hb2) (HW.out.2.trans (hb2.mono HW.out.2.size))); clear hb2 c0 c1 c2 c3 c4)
    | (go_at_call 10; refine (HR.out _).mono ?_; rintro e w3 ⟨rfl, hb3⟩; replace HW := Shut.mk (And.intro (HW.out.1.grow hb3) (HW.out.2.trans (hb3.mono HW.out.2.size))); clear hb3))
  have HX : Shut (WCells (w3.alloc (.cells #[.int .i64 kx, .string px, .string dx, .int .i64 nx, .int .i64 wx] 25)) w3.heap.size (ecells ⟨kx, px, dx, nx, wx⟩)) := ⟨wcells_new w3 #[.int .i64 kx, .string px, .string dx, .int .i64 nx, .int .i64 wx] 25⟩
  replace HW : Shut (WCells (w3.alloc (.cells #[.int .i64 kx, .string px, .string dx, .int .i64 nx, .int .i64 wx] 25)) b1 (ecells ⟨kind, path, dest, num, who⟩) ∧ Below w.heap.size w (w3.alloc (.cells #[.int .i64 kx, .string px, .string dx, .int .i64 nx, .int .i64 wx] 25))) := ⟨HW.out.1.alloc _, HW.out.2.alloc HW.out.2.size _⟩
  generalize w3.alloc (.cells #[.int .i64 kx, .string px, .string dx, .int .i64 nx, .int .i64 wx] 25) = W2 at HW HX ⊢
  generalize w3.heap.size = b2 at HX ⊢
  clear HT HR
  go_cut [50] from 29 to 50 (fun b wx => b = .bool false ∧ Shut (Below w.heap.size w wx))
  case first =>
    obtain ⟨c0, -⟩ := HW.out.1.2 0 _ rfl
    obtain ⟨c1, -⟩ := HW.out.1.2 1 _ rfl
    obtain ⟨c2, -⟩ := HW.out.1.2 2 _ rfl
    obtain ⟨c3, -⟩ := HW.out.1.2 3 _ rfl
    obtain ⟨c4, -⟩ := HW.out.1.2 4 _ rfl
    dsimp only at c0 c1 c2 c3 c4
    cases ok with
    | true =>
      have hx := HRE2.out
      rw [if_pos rfl] at hx
      cases hx
      clear HRE2
      go_wp2_with (first
        | (go_at_call 11; refine (HO1.out _).mono ?_; rintro e w4 ⟨rfl, hb4⟩; replace HW := Shut.mk (And.intro (HW.out.1.grow hb4) (HW.out.2.trans (hb4.mono HW.out.2.size))); replace HX := Shut.mk (HX.out.grow hb4); clear hb4 c0 c1 c2 c3 c4; obtain ⟨c0, -⟩ := HW.out.1.2 0 _ rfl; obtain ⟨c1, -⟩ := HW.out.1.2 1 _ rfl; obtain ⟨c2, -⟩ := HW.out.1.2 2 _ rfl; obtain ⟨c3, -⟩ := HW.out.1.2 3 _ rfl; obtain ⟨c4, -⟩ := HW.out.1.2 4 _ rfl; dsimp only at c0 c1 c2 c3 c4)
        | (go_at_call 12; refine (HO2.out _).mono ?_; rintro e w4 ⟨rfl, hb4⟩; replace HW := Shut.mk (And.intro (HW.out.1.grow hb4) (HW.out.2.trans (hb4.mono HW.out.2.size))); replace HX := Shut.mk (HX.out.grow hb4); clear hb4 c0 c1 c2 c3 c4; obtain ⟨c0, -⟩ := HW.out.1.2 0 _ rfl; obtain ⟨c1, -⟩ := HW.out.1.2 1 _ rfl; obtain ⟨c2, -⟩ := HW.out.1.2 2 _ rfl; obtain ⟨c3, -⟩ := HW.out.1.2 3 _ rfl; obtain ⟨c4, -⟩ := HW.out.1.2 4 _ rfl; obtain ⟨d0, -⟩ := HX.out.2 0 _ rfl; obtain ⟨d1, -⟩ := HX.out.2 1 _ rfl; obtain ⟨d2, -⟩ := HX.out.2 2 _ rfl; obtain ⟨d3, -⟩ := HX.out.2 3 _ rfl; obtain ⟨d4, -⟩ := HX.out.2 4 _ rfl; dsimp only at c0 c1 c2 c3 c4 d0 d1 d2 d3 d4))
      go_meet
      case rel => exact ⟨rfl, ⟨HW.out.2⟩⟩
    | false =>
      clear HRE2 HX
      go_wp2_with (first
        | (go_at_call 11; refine (HO1.out _).mono ?_; rintro e w4 ⟨rfl, hb4⟩; replace HW := Shut.mk (And.intro (HW.out.1.grow hb4) (HW.out.2.trans (hb4.mono HW.out.2.size))); clear hb4 c0 c1 c2 c3 c4; obtain ⟨c0, -⟩ := HW.out.1.2 0 _ rfl; obtain ⟨c1, -⟩ := HW.out.1.2 1 _ rfl; obtain ⟨c2, -⟩ := HW.out.1.2 2 _ rfl; obtain ⟨c3, -⟩ := HW.out.1.2 3 _ rfl; obtain ⟨c4, -⟩ := HW.out.1.2 4 _ rfl; dsimp only at c0 c1 c2 c3 c4)
        | (go_at_call 12; refine (HO2.out _).mono ?_; rintro e w4 ⟨rfl, hb4⟩; replace HW := Shut.mk (And.intro (HW.out.1.grow hb4) (HW.out.2.trans (hb4.mono HW.out.2.size))); clear hb4 c0 c1 c2 c3 c4))
      go_meet
      case rel => exact ⟨rfl, ⟨HW.out.2⟩⟩
  case rest =>
    obtain ⟨rfl, HB⟩ := hcut
    clear HW HX HO1 HO2 HRE2 HP
    have HC2 : Hid (CodeAt wc wc.heap.size a len) := ⟨HC.out.1, fun hp => by
      obtain ⟨b, off, e, hb, hx⟩ := (HC.out.below HB.out (Nat.le_refl _)).2 hp
      exact ⟨b, off, e, Nat.lt_of_lt_of_le hb HB.out.size, hx⟩⟩
    go_upto_region 9 with (go_at_call 13; refine (drawReadEdit_any _ a len cap HC2.out).mono ?_; rintro e w5 ⟨t, rfl, ht, hb5⟩; have HB5 := Shut.mk (HB.out.trans (hb5.mono HB.out.size)); clear hb5)
    have HR := Shut.mk (fun x => implReadEdit t x ht)
    have HS := Shut.mk (fun x => specReadEdit t x ht)
    have hri := read_is (s := t)
    have hfit : EFit (readE t).1 := by
      cases h : (readE t).2 with
      | true =>
        have := edit_small (hri h).1
        exact ⟨by omega, by omega⟩
      | false =>
        unfold readE at h ⊢
        split at h
        · cases h
        · rename_i hc
          rw [if_neg hc]
          exact ⟨by decide, by decide⟩
    have HT := Shut.mk (fun x => implEditText (readE t).1 x hfit)
    clear hfit ht
    generalize (readE t).1 = Y at HR HS HT hri
    generalize (readE t).2 = may at HR HS hri
    obtain ⟨u, hu⟩ : ∃ u, u = (if editOk Y then editT Y else ⟨#[]⟩) := ⟨_, rfl⟩
    rw [← hu] at HT
    have hut : may = true → u = t := fun h => by rw [hu, if_pos (hri h).1]; exact (hri h).2
    generalize editOk Y = ok2 at HT
    clear hri hu
    have HU := Shut.mk hut
    clear hut
    obtain ⟨kx, px, dx, nx, wx⟩ := Y
    go_upto_region 12 with (first
      | (go_at_call 10; refine (HR.out _).mono ?_; rintro e w6 ⟨rfl, hb6⟩; have HB6 := Shut.mk (HB5.out.trans (hb6.mono HB5.out.size)); have hec := Shut.mk (ec_new w6 ⟨kx, px, dx, nx, wx⟩ 25); clear hb6)
      | (go_at_call 14; refine (HS.out _).mono ?_; rintro e w7 ⟨rfl, hb7⟩; have HB7 := Shut.mk ((HB6.out.alloc HB6.out.size _).trans (hb7.mono (HB6.out.alloc HB6.out.size _).size)); replace hec := Shut.mk ((hec.out.below hb7).alloc (.cells #[.int .i64 kx, .string px, .string dx, .int .i64 nx, .int .i64 wx] 25)); clear hb7; obtain ⟨c0, c1, c2, c3, c4, -⟩ := hec.out; dsimp only at c0 c1 c2 c3 c4)
      | (go_at_call 9; refine (HT.out _).mono ?_; rintro e w8 ⟨rfl, hb8⟩; have HB8 := Shut.mk ((HB7.out.alloc HB7.out.size _).trans (hb8.mono (HB7.out.alloc HB7.out.size _).size)); clear hb8 c0 c1 c2 c3 c4))
    have hmm : (may == may) = true := by simp
    cases may with
    | true =>
      have hut := HU.out rfl
      have htt : (u.toList == t.toList) = true := by rw [hut]; simp
      clear hut
      go_wp2_with fail
      go_ret
      exact ⟨rfl, HB8.out⟩
    | false =>
      go_wp2_with fail
      go_ret
      exact ⟨rfl, HB8.out⟩
end Go.Proofs.Ytdglbakdianjkaa
