/- Texts of ours, laid one behind the other: EdU, EdV, EdW, MemA. -/
import Derived.Test.YtoglebfiobofoaaDoorPl6
import Derived.WalkLawsBesides
import Derived.Deep.RegionHeld3
import Derived.BigQuiet
import Derived.Tactics
import Derived.Tactics2
import Derived.Defers
import Derived.Recover
import Derived.Laws.Pointers
/- EdU: The program's own reader of a record's text: its steps. -/
namespace Go.Proofs.YtoglebfiobofoaaDoor
set_option maxRecDepth 100000
open Go.RowKit
open Go.PlainAid (bt)
attribute [local go_sem ↓] Go.wp_at_zero Go.wp_at_succ

/-- What the reader gives up with. -/
def noRec : List PanicEntry := [{ v := .iface 96 (.agg #[]), recovered := false }]
theorem implMust_yes (w : World) : Calls Tryd.prog 60 #[.bool true] w fun e w' => e = .returned (.tuple #[]) ∧ w' = w := by
  go_enter Tryd.func60, Tryd.ntmps60
  go_wp2
  refine ⟨rfl, .tuple #[], ?_, rfl, rfl⟩
  simp [results, Tryd.results60, go_sem]
theorem implMust_no (w : World) : Calls Tryd.prog 60 #[.bool false] w fun e w' => e = .panicked noRec ∧ w' = w := by
  go_enter Tryd.func60, Tryd.ntmps60
  go_wp2
  exact ⟨rfl, rfl, rfl⟩
theorem must_yes (x : World) : Calls Tryd.prog 60 #[.bool true] x fun e y => e = .returned (.tuple #[]) ∧ Below x.heap.size x y :=
  (implMust_yes x).mono (by rintro e y ⟨rfl, rfl⟩; exact ⟨rfl, Below.refl _ _⟩)
theorem Turned.put {w w' : World} {lo hi : Nat} (h : Turned w w' lo hi) (p : Addr) (v : Value) (h1 : lo ≤ p.block) (h2 : p.block < hi) : Turned w (w'.setCell p v) lo hi :=
  ⟨h.base.setCell (Nat.zero_le _) v, fun k hk ho => by rw [Below.heap_setCell _ _ _ _ (by omega)]; exact h.block k hk ho⟩
/-- The reader's box. -/
def RdC (w : World) (R : Nat) (s : ByteArray) (a : Nat) : Prop := WCells w R [.string s, .int .i64 (a : Nat)]
theorem RdC.got {w : World} {R : Nat} {s : ByteArray} {a : Nat} (h : RdC w R s a) : w.cell? ⟨R, 0, none⟩ = some (.string s) ∧ w.cell? ⟨R, 1, none⟩ = some (.int .i64 (a : Nat)) := ⟨(h.2 0 _ rfl).1, (h.2 1 _ rfl).1⟩
theorem RdC.later {w w' : World} {R : Nat} {s : ByteArray} {a : Nat} (h : RdC w R s a) (hb : Below w.heap.size w w') : RdC w' R s a := WCells.grow h hb
theorem RdC.put {w : World} {R : Nat} {s : ByteArray} {a : Nat} (h : RdC w R s a) (b : Nat) : RdC (w.setCell ⟨R, 1, none⟩ (.int .i64 (b : Nat))) R s b := WCells.set h 1 _ (by simp)
set_option maxHeartbeats 1000000 in
theorem implOne_no (R : Nat) (s : ByteArray) (a : Nat) (w : World) (h : RdC w R s a) (ha : s.size ≤ a) : Calls Tryd.prog 57 #[.pointer (some ⟨R, 0, none⟩)] w fun e w' => e = .panicked noRec ∧ Below w.heap.size w w' := by
  have hd : decide (a < s.size) = false := by simp; omega
  clear ha
  go_enter Tryd.func57, Tryd.ntmps57
  go_upto_region 1 with fail
  have HLE : Shut (∀ x, Later w.drew x → x.cell? ⟨R, 0, none⟩ = some (.string s) ∧ x.cell? ⟨R, 1, none⟩ = some (.int .i64 (a : Nat))) := ⟨fun x hx => (h.later (Below.trans (Below.drew (Below.refl _ _)) hx)).got⟩
  have HH := Shut.mk h
  clear h
  refine wp_region_later (by kernel_rfl) ?_
  refine wpL_val (i := 0) (v := ?v0) rfl (by kernel_rfl) (by kernel_rfl) (by kernel_rfl) (fun _ _ _ h => h) (by rfl) ?hy0 ?rest0
  case hy0 => (intro x hx; go_simp; try with_reducible rfl)
  try simp only [Act.put, List.setIfInBounds_toArray, List.set_cons_zero, List.set_cons_succ]
  refine wpL_val (i := 1) (v := ?v1) rfl (by kernel_rfl) (by kernel_rfl) (by kernel_rfl) (fun _ _ _ h => h) (by rfl) ?hy1 ?rest1
  case hy1 => (intro x hx; go_simp; try with_reducible rfl)
  try simp only [Act.put, List.setIfInBounds_toArray, List.set_cons_zero, List.set_cons_succ]
  refine wpL_val (i := 2) (v := ?v2) rfl (by kernel_rfl) (by kernel_rfl) (by kernel_rfl) (fun _ _ _ h => h) (by rfl) ?hy2 ?rest2
  case hy2 => (intro x hx; go_simp; try with_reducible rfl)
  try simp only [Act.put, List.setIfInBounds_toArray, List.set_cons_zero, List.set_cons_succ]
  refine wpL_val (i := 3) (v := ?v3) rfl (by kernel_rfl) (by kernel_rfl) (by kernel_rfl) (fun _ _ _ h => h) (by rfl) ?hy3 ?rest3
  case hy3 => (intro x hx; obtain ⟨c0, c1⟩ := HLE.out x hx; go_simp; try with_reducible rfl)
  try simp only [Act.put, List.setIfInBounds_toArray, List.set_cons_zero, List.set_cons_succ]
  refine wpL_val (i := 4) (v := ?v4) rfl (by kernel_rfl) (by kernel_rfl) (by kernel_rfl) (fun _ _ _ h => h) (by rfl) ?hy4 ?rest4
  case hy4 => (intro x hx; go_simp; try with_reducible rfl)
  try simp only [Act.put, List.setIfInBounds_toArray, List.set_cons_zero, List.set_cons_succ]
  refine wpL_val (i := 5) (v := ?v5) rfl (by kernel_rfl) (by kernel_rfl) (by kernel_rfl) (fun _ _ _ h => h) (by rfl) ?hy5 ?rest5
  case hy5 => (intro x hx; go_simp; try with_reducible rfl)
  try simp only [Act.put, List.setIfInBounds_toArray, List.set_cons_zero, List.set_cons_succ]
  refine wpL_val (i := 6) (v := ?v6) rfl (by kernel_rfl) (by kernel_rfl) (by kernel_rfl) (fun _ _ _ h => h) (by rfl) ?hy6 ?rest6
  case hy6 => (intro x hx; go_simp; try with_reducible rfl)
  try simp only [Act.put, List.setIfInBounds_toArray, List.set_cons_zero, List.set_cons_succ]
  refine wpL_val (i := 7) (v := ?v7) rfl (by kernel_rfl) (by kernel_rfl) (by kernel_rfl) (fun _ _ _ h => h) (by rfl) ?hy7 ?rest7
  case hy7 => (intro x hx; obtain ⟨c0, c1⟩ := HLE.out x hx; go_simp; try with_reducible rfl)
  try simp only [Act.put, List.setIfInBounds_toArray, List.set_cons_zero, List.set_cons_succ]
  refine wpL_val (i := 8) (v := ?v8) rfl (by kernel_rfl) (by kernel_rfl) (by kernel_rfl) (fun _ _ _ h => h) (by rfl) ?hy8 ?rest8
  case hy8 => (intro x hx; go_simp; try with_reducible rfl)
  try simp only [Act.put, List.setIfInBounds_toArray, List.set_cons_zero, List.set_cons_succ]
  refine wpL_val (i := 9) (v := ?v9) rfl (by kernel_rfl) (by kernel_rfl) (by kernel_rfl) (fun _ _ _ h => h) (by rfl) ?hy9 ?rest9
  case hy9 => (intro x hx; go_simp; try with_reducible rfl)
  try simp only [Act.put, List.setIfInBounds_toArray, List.set_cons_zero, List.set_cons_succ]
  refine wpL_panics (i := 10) (f := 60) (args := #[.bool false]) (chain := noRec) (by kernel_rfl) rfl (by rfl) ?hy10 ?hc10
  case hy10 => (intro x hx; go_simp; try with_reducible rfl)
  intro x hx
  refine (implMust_no x).mono ?_
  rintro e y ⟨rfl, rfl⟩
  exact ⟨rfl, rfl, rfl, Below.trans (Below.drew (Below.refl _ _)) hx⟩
set_option maxHeartbeats 1000000 in
theorem implOne_yes (R : Nat) (s : ByteArray) (a : Nat) (w : World) (h : RdC w R s a) (ha : a < s.size) (hs : s.size ≤ 1048576) : Calls Tryd.prog 57 #[.pointer (some ⟨R, 0, none⟩)] w fun e w' => e = .returned (.int .i64 (bt s a)) ∧ Turned w w' R (R + 1) ∧ RdC w' R s (a + 1) := by
  have hd : decide (a < s.size) = true := by simpa using ha
  have hb := Go.PlainAid.get_bt s
  have hwr := bt_wrap s a
  go_enter Tryd.func57, Tryd.ntmps57
  go_upto_region 1 with fail
  have HLE : Shut (∀ x, Later w.drew x → x.cell? ⟨R, 0, none⟩ = some (.string s) ∧ x.cell? ⟨R, 1, none⟩ = some (.int .i64 (a : Nat))) := ⟨fun x hx => (h.later (Below.trans (Below.drew (Below.refl _ _)) hx)).got⟩
  have HH := Shut.mk h
  clear h
  refine wp_region_later (by kernel_rfl) ?_
  refine wpL_val (i := 0) (v := ?v0) rfl (by kernel_rfl) (by kernel_rfl) (by kernel_rfl) (fun _ _ _ h => h) (by rfl) ?hy0 ?rest0
  case hy0 => (intro x hx; go_simp; try with_reducible rfl)
  try simp only [Act.put, List.setIfInBounds_toArray, List.set_cons_zero, List.set_cons_succ]
  refine wpL_val (i := 1) (v := ?v1) rfl (by kernel_rfl) (by kernel_rfl) (by kernel_rfl) (fun _ _ _ h => h) (by rfl) ?hy1 ?rest1
  case hy1 => (intro x hx; go_simp; try with_reducible rfl)
  try simp only [Act.put, List.setIfInBounds_toArray, List.set_cons_zero, List.set_cons_succ]
  refine wpL_val (i := 2) (v := ?v2) rfl (by kernel_rfl) (by kernel_rfl) (by kernel_rfl) (fun _ _ _ h => h) (by rfl) ?hy2 ?rest2
  case hy2 => (intro x hx; go_simp; try with_reducible rfl)
  try simp only [Act.put, List.setIfInBounds_toArray, List.set_cons_zero, List.set_cons_succ]
  refine wpL_val (i := 3) (v := ?v3) rfl (by kernel_rfl) (by kernel_rfl) (by kernel_rfl) (fun _ _ _ h => h) (by rfl) ?hy3 ?rest3
  case hy3 => (intro x hx; obtain ⟨c0, c1⟩ := HLE.out x hx; go_simp; try with_reducible rfl)
  try simp only [Act.put, List.setIfInBounds_toArray, List.set_cons_zero, List.set_cons_succ]
  refine wpL_val (i := 4) (v := ?v4) rfl (by kernel_rfl) (by kernel_rfl) (by kernel_rfl) (fun _ _ _ h => h) (by rfl) ?hy4 ?rest4
  case hy4 => (intro x hx; go_simp; try with_reducible rfl)
  try simp only [Act.put, List.setIfInBounds_toArray, List.set_cons_zero, List.set_cons_succ]
  refine wpL_val (i := 5) (v := ?v5) rfl (by kernel_rfl) (by kernel_rfl) (by kernel_rfl) (fun _ _ _ h => h) (by rfl) ?hy5 ?rest5
  case hy5 => (intro x hx; go_simp; try with_reducible rfl)
  try simp only [Act.put, List.setIfInBounds_toArray, List.set_cons_zero, List.set_cons_succ]
  refine wpL_val (i := 6) (v := ?v6) rfl (by kernel_rfl) (by kernel_rfl) (by kernel_rfl) (fun _ _ _ h => h) (by rfl) ?hy6 ?rest6
  case hy6 => (intro x hx; go_simp; try with_reducible rfl)
  try simp only [Act.put, List.setIfInBounds_toArray, List.set_cons_zero, List.set_cons_succ]
  refine wpL_val (i := 7) (v := ?v7) rfl (by kernel_rfl) (by kernel_rfl) (by kernel_rfl) (fun _ _ _ h => h) (by rfl) ?hy7 ?rest7
  case hy7 => (intro x hx; obtain ⟨c0, c1⟩ := HLE.out x hx; go_simp; try with_reducible rfl)
  try simp only [Act.put, List.setIfInBounds_toArray, List.set_cons_zero, List.set_cons_succ]
  refine wpL_val (i := 8) (v := ?v8) rfl (by kernel_rfl) (by kernel_rfl) (by kernel_rfl) (fun _ _ _ h => h) (by rfl) ?hy8 ?rest8
  case hy8 => (intro x hx; go_simp; try with_reducible rfl)
  try simp only [Act.put, List.setIfInBounds_toArray, List.set_cons_zero, List.set_cons_succ]
  refine wpL_val (i := 9) (v := ?v9) rfl (by kernel_rfl) (by kernel_rfl) (by kernel_rfl) (fun _ _ _ h => h) (by rfl) ?hy9 ?rest9
  case hy9 => (intro x hx; go_simp; try with_reducible rfl)
  try simp only [Act.put, List.setIfInBounds_toArray, List.set_cons_zero, List.set_cons_succ]
  refine wpL_call (i := 10) (v := .tuple #[]) (f := 60) (args := #[.bool true]) rfl (by kernel_rfl) (by kernel_rfl) (by kernel_rfl) (fun _ _ _ h => h) (by rfl) ?hy10 (fun x _ => must_yes x) ?rest10
  case hy10 => (intro x hx; go_simp; try with_reducible rfl)
  try simp only [Act.put, List.setIfInBounds_toArray, List.set_cons_zero, List.set_cons_succ]
  refine wpL_done (by kernel_rfl) ?_ _
  intro y hy
  have H2 : Shut (Below w.heap.size w y) := ⟨Below.trans (Below.drew (Below.refl _ _)) hy⟩
  obtain ⟨c0, c1⟩ := HLE.out y hy
  have hfz := ((HH.out.later H2.out).2 1 _ rfl).2
  clear hy HLE
  have ha2 : (a : Int) < (s.size : Int) := by omega
  have ha3 : (a : Int) + 1 ≤ 1048576 := by omega
  go_wp2_with fail
  go_quiet (fail)
  go_wp2_with fail
  go_ret
  have H3 : Below w.heap.size w (y.drewN nq) := below_drewN H2.out nq
  exact ⟨by rw [hwr]; rfl, (Turned.of_below H3 R (R + 1)).put _ _ (Nat.le_refl _) (Nat.lt_succ_self _), (HH.out.later H3).put (a + 1)⟩
theorem rd_short (s : ByteArray) (a : Nat) (w : World) (hs : s.size ≤ 1048576) : Calls Tryd.prog 67 #[.string s, .int .i64 (a : Nat)] w fun e w' => e = .returned (rsV (readShortI s (a : Nat))) ∧ Below w.heap.size w w' := implReadShort s a w hs
theorem rd_number (s : ByteArray) (a : Nat) (w : World) (hs : s.size ≤ 1048576) : Calls Tryd.prog 55 #[.string s, .int .i64 (a : Nat)] w fun e w' => e = .returned (rvV (readVarI s (a : Nat))) ∧ Below w.heap.size w w' :=
  (implReadVar s a w hs).mono (by rintro e y ⟨rfl, rfl⟩; exact ⟨rfl, Below.refl _ _⟩)
set_option maxHeartbeats 1000000 in
theorem implShort_no (R : Nat) (s : ByteArray) (a : Nat) (w : World) (h : RdC w R s a) (hs : s.size ≤ 1048576) (hn : readShortI s (a : Nat) = none) : Calls Tryd.prog 58 #[.pointer (some ⟨R, 0, none⟩)] w fun e w' => e = .panicked noRec ∧ Below w.heap.size w w' := by
  have HC := Shut.mk (fun x => rd_short s a x hs)
  rw [hn] at HC
  clear hn
  go_enter Tryd.func58, Tryd.ntmps58
  go_upto_region 1 with fail
  have HLE : Shut (∀ x, Later w.drew x → x.cell? ⟨R, 0, none⟩ = some (.string s) ∧ x.cell? ⟨R, 1, none⟩ = some (.int .i64 (a : Nat))) := ⟨fun x hx => (h.later (Below.trans (Below.drew (Below.refl _ _)) hx)).got⟩
  have HH := Shut.mk h
  clear h
  refine wp_region_later (by kernel_rfl) ?_
  refine wpL_val (i := 0) (v := ?v0) rfl (by kernel_rfl) (by kernel_rfl) (by kernel_rfl) (fun _ _ _ h => h) (by rfl) ?hy0 ?rest0
  case hy0 => (intro x hx; go_simp; try with_reducible rfl)
  try simp only [Act.put, List.setIfInBounds_toArray, List.set_cons_zero, List.set_cons_succ]
  refine wpL_val (i := 1) (v := ?v1) rfl (by kernel_rfl) (by kernel_rfl) (by kernel_rfl) (fun _ _ _ h => h) (by rfl) ?hy1 ?rest1
  case hy1 => (intro x hx; go_simp; try with_reducible rfl)
  try simp only [Act.put, List.setIfInBounds_toArray, List.set_cons_zero, List.set_cons_succ]
  refine wpL_val (i := 2) (v := ?v2) rfl (by kernel_rfl) (by kernel_rfl) (by kernel_rfl) (fun _ _ _ h => h) (by rfl) ?hy2 ?rest2
  case hy2 => (intro x hx; go_simp; try with_reducible rfl)
  try simp only [Act.put, List.setIfInBounds_toArray, List.set_cons_zero, List.set_cons_succ]
  refine wpL_val (i := 3) (v := ?v3) rfl (by kernel_rfl) (by kernel_rfl) (by kernel_rfl) (fun _ _ _ h => h) (by rfl) ?hy3 ?rest3
  case hy3 => (intro x hx; obtain ⟨c0, c1⟩ := HLE.out x hx; go_simp; try with_reducible rfl)
  try simp only [Act.put, List.setIfInBounds_toArray, List.set_cons_zero, List.set_cons_succ]
  refine wpL_val (i := 4) (v := ?v4) rfl (by kernel_rfl) (by kernel_rfl) (by kernel_rfl) (fun _ _ _ h => h) (by rfl) ?hy4 ?rest4
  case hy4 => (intro x hx; go_simp; try with_reducible rfl)
  try simp only [Act.put, List.setIfInBounds_toArray, List.set_cons_zero, List.set_cons_succ]
  refine wpL_val (i := 5) (v := ?v5) rfl (by kernel_rfl) (by kernel_rfl) (by kernel_rfl) (fun _ _ _ h => h) (by rfl) ?hy5 ?rest5
  case hy5 => (intro x hx; go_simp; try with_reducible rfl)
  try simp only [Act.put, List.setIfInBounds_toArray, List.set_cons_zero, List.set_cons_succ]
  refine wpL_val (i := 6) (v := ?v6) rfl (by kernel_rfl) (by kernel_rfl) (by kernel_rfl) (fun _ _ _ h => h) (by rfl) ?hy6 ?rest6
  case hy6 => (intro x hx; go_simp; try with_reducible rfl)
  try simp only [Act.put, List.setIfInBounds_toArray, List.set_cons_zero, List.set_cons_succ]
  refine wpL_val (i := 7) (v := ?v7) rfl (by kernel_rfl) (by kernel_rfl) (by kernel_rfl) (fun _ _ _ h => h) (by rfl) ?hy7 ?rest7
  case hy7 => (intro x hx; obtain ⟨c0, c1⟩ := HLE.out x hx; go_simp; try with_reducible rfl)
  try simp only [Act.put, List.setIfInBounds_toArray, List.set_cons_zero, List.set_cons_succ]
  refine wpL_call (i := 8) (v := .tuple #[.string ⟨#[]⟩, .int .i64 0, .bool false]) (f := 67) (args := #[.string s, .int .i64 (a : Nat)]) rfl (by kernel_rfl) (by kernel_rfl) (by kernel_rfl) (fun _ _ _ h => h) (by rfl) ?hy8 (fun x _ => HC.out x) ?rest8
  case hy8 => (intro x hx; go_simp; try with_reducible rfl)
  try simp only [Act.put, List.setIfInBounds_toArray, List.set_cons_zero, List.set_cons_succ]
  refine wpL_val (i := 9) (v := ?v9) rfl (by kernel_rfl) (by kernel_rfl) (by kernel_rfl) (fun _ _ _ h => h) (by rfl) ?hy9 ?rest9
  case hy9 => (intro x hx; go_simp; try with_reducible rfl)
  try simp only [Act.put, List.setIfInBounds_toArray, List.set_cons_zero, List.set_cons_succ]
  refine wpL_val (i := 10) (v := ?v10) rfl (by kernel_rfl) (by kernel_rfl) (by kernel_rfl) (fun _ _ _ h => h) (by rfl) ?hy10 ?rest10
  case hy10 => (intro x hx; go_simp; try with_reducible rfl)
  try simp only [Act.put, List.setIfInBounds_toArray, List.set_cons_zero, List.set_cons_succ]
  refine wpL_val (i := 11) (v := ?v11) rfl (by kernel_rfl) (by kernel_rfl) (by kernel_rfl) (fun _ _ _ h => h) (by rfl) ?hy11 ?rest11
  case hy11 => (intro x hx; go_simp; try with_reducible rfl)
  try simp only [Act.put, List.setIfInBounds_toArray, List.set_cons_zero, List.set_cons_succ]
  refine wpL_val (i := 12) (v := ?v12) rfl (by kernel_rfl) (by kernel_rfl) (by kernel_rfl) (fun _ _ _ h => h) (by rfl) ?hy12 ?rest12
  case hy12 => (intro x hx; go_simp; try with_reducible rfl)
  try simp only [Act.put, List.setIfInBounds_toArray, List.set_cons_zero, List.set_cons_succ]
  refine wpL_val (i := 13) (v := ?v13) rfl (by kernel_rfl) (by kernel_rfl) (by kernel_rfl) (fun _ _ _ h => h) (by rfl) ?hy13 ?rest13
  case hy13 => (intro x hx; go_simp; try with_reducible rfl)
  try simp only [Act.put, List.setIfInBounds_toArray, List.set_cons_zero, List.set_cons_succ]
  refine wpL_val (i := 14) (v := ?v14) rfl (by kernel_rfl) (by kernel_rfl) (by kernel_rfl) (fun _ _ _ h => h) (by rfl) ?hy14 ?rest14
  case hy14 => (intro x hx; go_simp; try with_reducible rfl)
  try simp only [Act.put, List.setIfInBounds_toArray, List.set_cons_zero, List.set_cons_succ]
  refine wpL_val (i := 15) (v := ?v15) rfl (by kernel_rfl) (by kernel_rfl) (by kernel_rfl) (fun _ _ _ h => h) (by rfl) ?hy15 ?rest15
  case hy15 => (intro x hx; go_simp; try with_reducible rfl)
  try simp only [Act.put, List.setIfInBounds_toArray, List.set_cons_zero, List.set_cons_succ]
  refine wpL_done (by kernel_rfl) ?_ _
  intro y hy
  have H2 : Shut (Below w.heap.size w y) := ⟨Below.trans (Below.drew (Below.refl _ _)) hy⟩
  clear hy HLE
  go_wp2_with (go_at_call 60; refine (implMust_no _).mono ?_; rintro e w1 ⟨rfl, rfl⟩)
  exact ⟨rfl, rfl, H2.out⟩
set_option maxHeartbeats 1000000 in
theorem implShort_yes (R : Nat) (s : ByteArray) (a : Nat) (w : World) (h : RdC w R s a) (hs : s.size ≤ 1048576) (t : ByteArray) (p : Nat) (hn : readShortI s (a : Nat) = some (t, p)) : Calls Tryd.prog 58 #[.pointer (some ⟨R, 0, none⟩)] w fun e w' => e = .returned (.string t) ∧ Turned w w' R (R + 1) ∧ RdC w' R s p := by
  have HC := Shut.mk (fun x => rd_short s a x hs)
  rw [hn] at HC
  clear hn
  go_enter Tryd.func58, Tryd.ntmps58
  go_upto_region 1 with fail
  have HLE : Shut (∀ x, Later w.drew x → x.cell? ⟨R, 0, none⟩ = some (.string s) ∧ x.cell? ⟨R, 1, none⟩ = some (.int .i64 (a : Nat))) := ⟨fun x hx => (h.later (Below.trans (Below.drew (Below.refl _ _)) hx)).got⟩
  have HH := Shut.mk h
  clear h
  refine wp_region_later (by kernel_rfl) ?_
  refine wpL_val (i := 0) (v := ?v0) rfl (by kernel_rfl) (by kernel_rfl) (by kernel_rfl) (fun _ _ _ h => h) (by rfl) ?hy0 ?rest0
  case hy0 => (intro x hx; go_simp; try with_reducible rfl)
  try simp only [Act.put, List.setIfInBounds_toArray, List.set_cons_zero, List.set_cons_succ]
  refine wpL_val (i := 1) (v := ?v1) rfl (by kernel_rfl) (by kernel_rfl) (by kernel_rfl) (fun _ _ _ h => h) (by rfl) ?hy1 ?rest1
  case hy1 => (intro x hx; go_simp; try with_reducible rfl)
  try simp only [Act.put, List.setIfInBounds_toArray, List.set_cons_zero, List.set_cons_succ]
  refine wpL_val (i := 2) (v := ?v2) rfl (by kernel_rfl) (by kernel_rfl) (by kernel_rfl) (fun _ _ _ h => h) (by rfl) ?hy2 ?rest2
  case hy2 => (intro x hx; go_simp; try with_reducible rfl)
  try simp only [Act.put, List.setIfInBounds_toArray, List.set_cons_zero, List.set_cons_succ]
  refine wpL_val (i := 3) (v := ?v3) rfl (by kernel_rfl) (by kernel_rfl) (by kernel_rfl) (fun _ _ _ h => h) (by rfl) ?hy3 ?rest3
  case hy3 => (intro x hx; obtain ⟨c0, c1⟩ := HLE.out x hx; go_simp; try with_reducible rfl)
  try simp only [Act.put, List.setIfInBounds_toArray, List.set_cons_zero, List.set_cons_succ]
  refine wpL_val (i := 4) (v := ?v4) rfl (by kernel_rfl) (by kernel_rfl) (by kernel_rfl) (fun _ _ _ h => h) (by rfl) ?hy4 ?rest4
  case hy4 => (intro x hx; go_simp; try with_reducible rfl)
  try simp only [Act.put, List.setIfInBounds_toArray, List.set_cons_zero, List.set_cons_succ]
  refine wpL_val (i := 5) (v := ?v5) rfl (by kernel_rfl) (by kernel_rfl) (by kernel_rfl) (fun _ _ _ h => h) (by rfl) ?hy5 ?rest5
  case hy5 => (intro x hx; go_simp; try with_reducible rfl)
  try simp only [Act.put, List.setIfInBounds_toArray, List.set_cons_zero, List.set_cons_succ]
  refine wpL_val (i := 6) (v := ?v6) rfl (by kernel_rfl) (by kernel_rfl) (by kernel_rfl) (fun _ _ _ h => h) (by rfl) ?hy6 ?rest6
  case hy6 => (intro x hx; go_simp; try with_reducible rfl)
  try simp only [Act.put, List.setIfInBounds_toArray, List.set_cons_zero, List.set_cons_succ]
  refine wpL_val (i := 7) (v := ?v7) rfl (by kernel_rfl) (by kernel_rfl) (by kernel_rfl) (fun _ _ _ h => h) (by rfl) ?hy7 ?rest7
  case hy7 => (intro x hx; obtain ⟨c0, c1⟩ := HLE.out x hx; go_simp; try with_reducible rfl)
  try simp only [Act.put, List.setIfInBounds_toArray, List.set_cons_zero, List.set_cons_succ]
  refine wpL_call (i := 8) (v := .tuple #[.string t, .int .i64 (p : Nat), .bool true]) (f := 67) (args := #[.string s, .int .i64 (a : Nat)]) rfl (by kernel_rfl) (by kernel_rfl) (by kernel_rfl) (fun _ _ _ h => h) (by rfl) ?hy8 (fun x _ => HC.out x) ?rest8
  case hy8 => (intro x hx; go_simp; try with_reducible rfl)
  try simp only [Act.put, List.setIfInBounds_toArray, List.set_cons_zero, List.set_cons_succ]
  refine wpL_val (i := 9) (v := ?v9) rfl (by kernel_rfl) (by kernel_rfl) (by kernel_rfl) (fun _ _ _ h => h) (by rfl) ?hy9 ?rest9
  case hy9 => (intro x hx; go_simp; try with_reducible rfl)
  try simp only [Act.put, List.setIfInBounds_toArray, List.set_cons_zero, List.set_cons_succ]
  refine wpL_val (i := 10) (v := ?v10) rfl (by kernel_rfl) (by kernel_rfl) (by kernel_rfl) (fun _ _ _ h => h) (by rfl) ?hy10 ?rest10
  case hy10 => (intro x hx; go_simp; try with_reducible rfl)
  try simp only [Act.put, List.setIfInBounds_toArray, List.set_cons_zero, List.set_cons_succ]
  refine wpL_val (i := 11) (v := ?v11) rfl (by kernel_rfl) (by kernel_rfl) (by kernel_rfl) (fun _ _ _ h => h) (by rfl) ?hy11 ?rest11
  case hy11 => (intro x hx; go_simp; try with_reducible rfl)
  try simp only [Act.put, List.setIfInBounds_toArray, List.set_cons_zero, List.set_cons_succ]
  refine wpL_val (i := 12) (v := ?v12) rfl (by kernel_rfl) (by kernel_rfl) (by kernel_rfl) (fun _ _ _ h => h) (by rfl) ?hy12 ?rest12
  case hy12 => (intro x hx; go_simp; try with_reducible rfl)
  try simp only [Act.put, List.setIfInBounds_toArray, List.set_cons_zero, List.set_cons_succ]
  refine wpL_val (i := 13) (v := ?v13) rfl (by kernel_rfl) (by kernel_rfl) (by kernel_rfl) (fun _ _ _ h => h) (by rfl) ?hy13 ?rest13
  case hy13 => (intro x hx; go_simp; try with_reducible rfl)
  try simp only [Act.put, List.setIfInBounds_toArray, List.set_cons_zero, List.set_cons_succ]
  refine wpL_val (i := 14) (v := ?v14) rfl (by kernel_rfl) (by kernel_rfl) (by kernel_rfl) (fun _ _ _ h => h) (by rfl) ?hy14 ?rest14
  case hy14 => (intro x hx; go_simp; try with_reducible rfl)
  try simp only [Act.put, List.setIfInBounds_toArray, List.set_cons_zero, List.set_cons_succ]
  refine wpL_val (i := 15) (v := ?v15) rfl (by kernel_rfl) (by kernel_rfl) (by kernel_rfl) (fun _ _ _ h => h) (by rfl) ?hy15 ?rest15
  case hy15 => (intro x hx; go_simp; try with_reducible rfl)
  try simp only [Act.put, List.setIfInBounds_toArray, List.set_cons_zero, List.set_cons_succ]
  refine wpL_done (by kernel_rfl) ?_ _
  intro y hy
  have H2 : Shut (Below w.heap.size w y) := ⟨Below.trans (Below.drew (Below.refl _ _)) hy⟩
  have hfz := ((HH.out.later H2.out).2 1 _ rfl).2
  have hcl := ((HH.out.later H2.out).2 1 _ rfl).1
  clear hy HLE
  go_wp2_with (go_at_call 60; refine (implMust_yes _).mono ?_; rintro e w1 ⟨rfl, rfl⟩)
  go_ret
  exact ⟨rfl, (Turned.of_below H2.out R (R + 1)).put _ _ (Nat.le_refl _) (Nat.lt_succ_self _), (HH.out.later H2.out).put p⟩
set_option maxHeartbeats 1000000 in
theorem implNumber_no (R : Nat) (s : ByteArray) (a : Nat) (w : World) (h : RdC w R s a) (hs : s.size ≤ 1048576) (hn : readVarI s (a : Nat) = none) : Calls Tryd.prog 59 #[.pointer (some ⟨R, 0, none⟩)] w fun e w' => e = .panicked noRec ∧ Below w.heap.size w w' := by
  have HC := Shut.mk (fun x => rd_number s a x hs)
  rw [hn] at HC
  clear hn
  go_enter Tryd.func59, Tryd.ntmps59
  go_upto_region 1 with fail
  have HLE : Shut (∀ x, Later w.drew x → x.cell? ⟨R, 0, none⟩ = some (.string s) ∧ x.cell? ⟨R, 1, none⟩ = some (.int .i64 (a : Nat))) := ⟨fun x hx => (h.later (Below.trans (Below.drew (Below.refl _ _)) hx)).got⟩
  have HH := Shut.mk h
  clear h
  refine wp_region_later (by kernel_rfl) ?_
  refine wpL_val (i := 0) (v := ?v0) rfl (by kernel_rfl) (by kernel_rfl) (by kernel_rfl) (fun _ _ _ h => h) (by rfl) ?hy0 ?rest0
  case hy0 => (intro x hx; go_simp; try with_reducible rfl)
  try simp only [Act.put, List.setIfInBounds_toArray, List.set_cons_zero, List.set_cons_succ]
  refine wpL_val (i := 1) (v := ?v1) rfl (by kernel_rfl) (by kernel_rfl) (by kernel_rfl) (fun _ _ _ h => h) (by rfl) ?hy1 ?rest1
  case hy1 => (intro x hx; go_simp; try with_reducible rfl)
  try simp only [Act.put, List.setIfInBounds_toArray, List.set_cons_zero, List.set_cons_succ]
  refine wpL_val (i := 2) (v := ?v2) rfl (by kernel_rfl) (by kernel_rfl) (by kernel_rfl) (fun _ _ _ h => h) (by rfl) ?hy2 ?rest2
  case hy2 => (intro x hx; go_simp; try with_reducible rfl)
  try simp only [Act.put, List.setIfInBounds_toArray, List.set_cons_zero, List.set_cons_succ]
  refine wpL_val (i := 3) (v := ?v3) rfl (by kernel_rfl) (by kernel_rfl) (by kernel_rfl) (fun _ _ _ h => h) (by rfl) ?hy3 ?rest3
  case hy3 => (intro x hx; obtain ⟨c0, c1⟩ := HLE.out x hx; go_simp; try with_reducible rfl)
  try simp only [Act.put, List.setIfInBounds_toArray, List.set_cons_zero, List.set_cons_succ]
  refine wpL_val (i := 4) (v := ?v4) rfl (by kernel_rfl) (by kernel_rfl) (by kernel_rfl) (fun _ _ _ h => h) (by rfl) ?hy4 ?rest4
  case hy4 => (intro x hx; go_simp; try with_reducible rfl)
  try simp only [Act.put, List.setIfInBounds_toArray, List.set_cons_zero, List.set_cons_succ]
  refine wpL_val (i := 5) (v := ?v5) rfl (by kernel_rfl) (by kernel_rfl) (by kernel_rfl) (fun _ _ _ h => h) (by rfl) ?hy5 ?rest5
  case hy5 => (intro x hx; go_simp; try with_reducible rfl)
  try simp only [Act.put, List.setIfInBounds_toArray, List.set_cons_zero, List.set_cons_succ]
  refine wpL_val (i := 6) (v := ?v6) rfl (by kernel_rfl) (by kernel_rfl) (by kernel_rfl) (fun _ _ _ h => h) (by rfl) ?hy6 ?rest6
  case hy6 => (intro x hx; go_simp; try with_reducible rfl)
  try simp only [Act.put, List.setIfInBounds_toArray, List.set_cons_zero, List.set_cons_succ]
  refine wpL_val (i := 7) (v := ?v7) rfl (by kernel_rfl) (by kernel_rfl) (by kernel_rfl) (fun _ _ _ h => h) (by rfl) ?hy7 ?rest7
  case hy7 => (intro x hx; obtain ⟨c0, c1⟩ := HLE.out x hx; go_simp; try with_reducible rfl)
  try simp only [Act.put, List.setIfInBounds_toArray, List.set_cons_zero, List.set_cons_succ]
  refine wpL_call (i := 8) (v := .tuple #[.int .i64 0, .int .i64 0, .bool false]) (f := 55) (args := #[.string s, .int .i64 (a : Nat)]) rfl (by kernel_rfl) (by kernel_rfl) (by kernel_rfl) (fun _ _ _ h => h) (by rfl) ?hy8 (fun x _ => HC.out x) ?rest8
  case hy8 => (intro x hx; go_simp; try with_reducible rfl)
  try simp only [Act.put, List.setIfInBounds_toArray, List.set_cons_zero, List.set_cons_succ]
  refine wpL_val (i := 9) (v := ?v9) rfl (by kernel_rfl) (by kernel_rfl) (by kernel_rfl) (fun _ _ _ h => h) (by rfl) ?hy9 ?rest9
  case hy9 => (intro x hx; go_simp; try with_reducible rfl)
  try simp only [Act.put, List.setIfInBounds_toArray, List.set_cons_zero, List.set_cons_succ]
  refine wpL_val (i := 10) (v := ?v10) rfl (by kernel_rfl) (by kernel_rfl) (by kernel_rfl) (fun _ _ _ h => h) (by rfl) ?hy10 ?rest10
  case hy10 => (intro x hx; go_simp; try with_reducible rfl)
  try simp only [Act.put, List.setIfInBounds_toArray, List.set_cons_zero, List.set_cons_succ]
  refine wpL_val (i := 11) (v := ?v11) rfl (by kernel_rfl) (by kernel_rfl) (by kernel_rfl) (fun _ _ _ h => h) (by rfl) ?hy11 ?rest11
  case hy11 => (intro x hx; go_simp; try with_reducible rfl)
  try simp only [Act.put, List.setIfInBounds_toArray, List.set_cons_zero, List.set_cons_succ]
  refine wpL_val (i := 12) (v := ?v12) rfl (by kernel_rfl) (by kernel_rfl) (by kernel_rfl) (fun _ _ _ h => h) (by rfl) ?hy12 ?rest12
  case hy12 => (intro x hx; go_simp; try with_reducible rfl)
  try simp only [Act.put, List.setIfInBounds_toArray, List.set_cons_zero, List.set_cons_succ]
  refine wpL_val (i := 13) (v := ?v13) rfl (by kernel_rfl) (by kernel_rfl) (by kernel_rfl) (fun _ _ _ h => h) (by rfl) ?hy13 ?rest13
  case hy13 => (intro x hx; go_simp; try with_reducible rfl)
  try simp only [Act.put, List.setIfInBounds_toArray, List.set_cons_zero, List.set_cons_succ]
  refine wpL_val (i := 14) (v := ?v14) rfl (by kernel_rfl) (by kernel_rfl) (by kernel_rfl) (fun _ _ _ h => h) (by rfl) ?hy14 ?rest14
  case hy14 => (intro x hx; go_simp; try with_reducible rfl)
  try simp only [Act.put, List.setIfInBounds_toArray, List.set_cons_zero, List.set_cons_succ]
  refine wpL_val (i := 15) (v := ?v15) rfl (by kernel_rfl) (by kernel_rfl) (by kernel_rfl) (fun _ _ _ h => h) (by rfl) ?hy15 ?rest15
  case hy15 => (intro x hx; go_simp; try with_reducible rfl)
  try simp only [Act.put, List.setIfInBounds_toArray, List.set_cons_zero, List.set_cons_succ]
  refine wpL_done (by kernel_rfl) ?_ _
  intro y hy
  have H2 : Shut (Below w.heap.size w y) := ⟨Below.trans (Below.drew (Below.refl _ _)) hy⟩
  clear hy HLE
  go_wp2_with (go_at_call 60; refine (implMust_no _).mono ?_; rintro e w1 ⟨rfl, rfl⟩)
  exact ⟨rfl, rfl, H2.out⟩
set_option maxHeartbeats 1000000 in
theorem implNumber_yes (R : Nat) (s : ByteArray) (a : Nat) (w : World) (h : RdC w R s a) (hs : s.size ≤ 1048576) (t : Nat) (p : Nat) (hn : readVarI s (a : Nat) = some (t, p)) : Calls Tryd.prog 59 #[.pointer (some ⟨R, 0, none⟩)] w fun e w' => e = .returned (.int .i64 (t : Nat)) ∧ Turned w w' R (R + 1) ∧ RdC w' R s p := by
  have HC := Shut.mk (fun x => rd_number s a x hs)
  rw [hn] at HC
  clear hn
  go_enter Tryd.func59, Tryd.ntmps59
  go_upto_region 1 with fail
  have HLE : Shut (∀ x, Later w.drew x → x.cell? ⟨R, 0, none⟩ = some (.string s) ∧ x.cell? ⟨R, 1, none⟩ = some (.int .i64 (a : Nat))) := ⟨fun x hx => (h.later (Below.trans (Below.drew (Below.refl _ _)) hx)).got⟩
  have HH := Shut.mk h
  clear h
  refine wp_region_later (by kernel_rfl) ?_
  refine wpL_val (i := 0) (v := ?v0) rfl (by kernel_rfl) (by kernel_rfl) (by kernel_rfl) (fun _ _ _ h => h) (by rfl) ?hy0 ?rest0
  case hy0 => (intro x hx; go_simp; try with_reducible rfl)
  try simp only [Act.put, List.setIfInBounds_toArray, List.set_cons_zero, List.set_cons_succ]
  refine wpL_val (i := 1) (v := ?v1) rfl (by kernel_rfl) (by kernel_rfl) (by kernel_rfl) (fun _ _ _ h => h) (by rfl) ?hy1 ?rest1
  case hy1 => (intro x hx; go_simp; try with_reducible rfl)
  try simp only [Act.put, List.setIfInBounds_toArray, List.set_cons_zero, List.set_cons_succ]
  refine wpL_val (i := 2) (v := ?v2) rfl (by kernel_rfl) (by kernel_rfl) (by kernel_rfl) (fun _ _ _ h => h) (by rfl) ?hy2 ?rest2
  case hy2 => (intro x hx; go_simp; try with_reducible rfl)
  try simp only [Act.put, List.setIfInBounds_toArray, List.set_cons_zero, List.set_cons_succ]
  refine wpL_val (i := 3) (v := ?v3) rfl (by kernel_rfl) (by kernel_rfl) (by kernel_rfl) (fun _ _ _ h => h) (by rfl) ?hy3 ?rest3
  case hy3 => (intro x hx; obtain ⟨c0, c1⟩ := HLE.out x hx; go_simp; try with_reducible rfl)
  try simp only [Act.put, List.setIfInBounds_toArray, List.set_cons_zero, List.set_cons_succ]
  refine wpL_val (i := 4) (v := ?v4) rfl (by kernel_rfl) (by kernel_rfl) (by kernel_rfl) (fun _ _ _ h => h) (by rfl) ?hy4 ?rest4
  case hy4 => (intro x hx; go_simp; try with_reducible rfl)
  try simp only [Act.put, List.setIfInBounds_toArray, List.set_cons_zero, List.set_cons_succ]
  refine wpL_val (i := 5) (v := ?v5) rfl (by kernel_rfl) (by kernel_rfl) (by kernel_rfl) (fun _ _ _ h => h) (by rfl) ?hy5 ?rest5
  case hy5 => (intro x hx; go_simp; try with_reducible rfl)
  try simp only [Act.put, List.setIfInBounds_toArray, List.set_cons_zero, List.set_cons_succ]
  refine wpL_val (i := 6) (v := ?v6) rfl (by kernel_rfl) (by kernel_rfl) (by kernel_rfl) (fun _ _ _ h => h) (by rfl) ?hy6 ?rest6
  case hy6 => (intro x hx; go_simp; try with_reducible rfl)
  try simp only [Act.put, List.setIfInBounds_toArray, List.set_cons_zero, List.set_cons_succ]
  refine wpL_val (i := 7) (v := ?v7) rfl (by kernel_rfl) (by kernel_rfl) (by kernel_rfl) (fun _ _ _ h => h) (by rfl) ?hy7 ?rest7
  case hy7 => (intro x hx; obtain ⟨c0, c1⟩ := HLE.out x hx; go_simp; try with_reducible rfl)
  try simp only [Act.put, List.setIfInBounds_toArray, List.set_cons_zero, List.set_cons_succ]
  refine wpL_call (i := 8) (v := .tuple #[.int .i64 (t : Nat), .int .i64 (p : Nat), .bool true]) (f := 55) (args := #[.string s, .int .i64 (a : Nat)]) rfl (by kernel_rfl) (by kernel_rfl) (by kernel_rfl) (fun _ _ _ h => h) (by rfl) ?hy8 (fun x _ => HC.out x) ?rest8
  case hy8 => (intro x hx; go_simp; try with_reducible rfl)
  try simp only [Act.put, List.setIfInBounds_toArray, List.set_cons_zero, List.set_cons_succ]
  refine wpL_val (i := 9) (v := ?v9) rfl (by kernel_rfl) (by kernel_rfl) (by kernel_rfl) (fun _ _ _ h => h) (by rfl) ?hy9 ?rest9
  case hy9 => (intro x hx; go_simp; try with_reducible rfl)
  try simp only [Act.put, List.setIfInBounds_toArray, List.set_cons_zero, List.set_cons_succ]
  refine wpL_val (i := 10) (v := ?v10) rfl (by kernel_rfl) (by kernel_rfl) (by kernel_rfl) (fun _ _ _ h => h) (by rfl) ?hy10 ?rest10
  case hy10 => (intro x hx; go_simp; try with_reducible rfl)
  try simp only [Act.put, List.setIfInBounds_toArray, List.set_cons_zero, List.set_cons_succ]
  refine wpL_val (i := 11) (v := ?v11) rfl (by kernel_rfl) (by kernel_rfl) (by kernel_rfl) (fun _ _ _ h => h) (by rfl) ?hy11 ?rest11
  case hy11 => (intro x hx; go_simp; try with_reducible rfl)
  try simp only [Act.put, List.setIfInBounds_toArray, List.set_cons_zero, List.set_cons_succ]
  refine wpL_val (i := 12) (v := ?v12) rfl (by kernel_rfl) (by kernel_rfl) (by kernel_rfl) (fun _ _ _ h => h) (by rfl) ?hy12 ?rest12
  case hy12 => (intro x hx; go_simp; try with_reducible rfl)
  try simp only [Act.put, List.setIfInBounds_toArray, List.set_cons_zero, List.set_cons_succ]
  refine wpL_val (i := 13) (v := ?v13) rfl (by kernel_rfl) (by kernel_rfl) (by kernel_rfl) (fun _ _ _ h => h) (by rfl) ?hy13 ?rest13
  case hy13 => (intro x hx; go_simp; try with_reducible rfl)
  try simp only [Act.put, List.setIfInBounds_toArray, List.set_cons_zero, List.set_cons_succ]
  refine wpL_val (i := 14) (v := ?v14) rfl (by kernel_rfl) (by kernel_rfl) (by kernel_rfl) (fun _ _ _ h => h) (by rfl) ?hy14 ?rest14
  case hy14 => (intro x hx; go_simp; try with_reducible rfl)
  try simp only [Act.put, List.setIfInBounds_toArray, List.set_cons_zero, List.set_cons_succ]
  refine wpL_val (i := 15) (v := ?v15) rfl (by kernel_rfl) (by kernel_rfl) (by kernel_rfl) (fun _ _ _ h => h) (by rfl) ?hy15 ?rest15
  case hy15 => (intro x hx; go_simp; try with_reducible rfl)
  try simp only [Act.put, List.setIfInBounds_toArray, List.set_cons_zero, List.set_cons_succ]
  refine wpL_done (by kernel_rfl) ?_ _
  intro y hy
  have H2 : Shut (Below w.heap.size w y) := ⟨Below.trans (Below.drew (Below.refl _ _)) hy⟩
  have hfz := ((HH.out.later H2.out).2 1 _ rfl).2
  have hcl := ((HH.out.later H2.out).2 1 _ rfl).1
  clear hy HLE
  go_wp2_with (go_at_call 60; refine (implMust_yes _).mono ?_; rintro e w1 ⟨rfl, rfl⟩)
  go_ret
  exact ⟨rfl, (Turned.of_below H2.out R (R + 1)).put _ _ (Nat.le_refl _) (Nat.lt_succ_self _), (HH.out.later H2.out).put p⟩
end Go.Proofs.YtoglebfiobofoaaDoor
/- EdV: The program's own reader of a record's text, whole. -/
namespace Go.Proofs.YtoglebfiobofoaaDoor
set_option maxRecDepth 100000
open Go.RowKit
open Go.PlainAid (bt)
attribute [local go_sem ↓] Go.wp_at_zero Go.wp_at_succ

/-- The reader's box, the answer's box, the record's box. -/
def RE (w0 w : World) (R A B : Nat) (s : ByteArray) (a : Nat) (X : EM) : Prop := RdC w R s a ∧ WCells w A (ecells zeroE) ∧ WCells w B (ecells X) ∧ Turned w0 w R (R + 1) ∧ A ≠ B ∧ R < w0.heap.size ∧ w0.heap.size ≤ A ∧ w0.heap.size ≤ B
theorem RE.turned {w0 w w' : World} {R A B : Nat} {s : ByteArray} {a b : Nat} {X : EM} (h : RE w0 w R A B s a X) (ht : Turned w w' R (R + 1)) (hr : RdC w' R s b) : RE w0 w' R A B s b X :=
  ⟨hr, h.2.1.turned ht (by have := h.2.2.2.2.2; omega), h.2.2.1.turned ht (by have := h.2.2.2.2.2; omega), h.2.2.2.1.trans ht, h.2.2.2.2⟩
theorem RE.below {w0 w w' : World} {R A B : Nat} {s : ByteArray} {a : Nat} {X : EM} (h : RE w0 w R A B s a X) (hb : Below w.heap.size w w') : RE w0 w' R A B s a X :=
  ⟨h.1.later hb, h.2.1.grow hb, h.2.2.1.grow hb, h.2.2.2.1.trans (Turned.of_below hb _ _), h.2.2.2.2⟩
theorem Turned.fresh {w w' : World} {lo hi : Nat} (h : Turned w w' lo hi) (p : Addr) (v : Value) (h1 : w.heap.size ≤ p.block) : Turned w (w'.setCell p v) lo hi :=
  ⟨h.base.setCell (Nat.zero_le _) v, fun k hk ho => by rw [Below.heap_setCell _ _ _ _ (by omega)]; exact h.block k hk ho⟩
theorem RE.set {w0 w : World} {R A B : Nat} {s : ByteArray} {a : Nat} {X Y : EM} (h : RE w0 w R A B s a X) (i : Nat) (v : Value) (hi : i < 5) (hz : (ecells X).set i v = ecells Y) : RE w0 (w.setCell ⟨B, i, none⟩ v) R A B s a Y :=
  ⟨WCells.other h.1 _ _ (by have := h.2.2.2.2.2; show R ≠ B; omega), h.2.1.other _ _ h.2.2.2.2.1, by rw [← hz]; exact h.2.2.1.set i v (by rw [ecells_len]; exact hi), h.2.2.2.1.fresh _ _ h.2.2.2.2.2.2.2, h.2.2.2.2⟩
theorem RE.got {w0 w : World} {R A B : Nat} {s : ByteArray} {a : Nat} {X : EM} (h : RE w0 w R A B s a X) (i : Nat) (v : Value) (hv : (ecells X)[i]? = some v) : w.cell? ⟨B, i, none⟩ = some v ∧ w.frozen? ⟨B, i, none⟩ = false := h.2.2.1.2 i v hv
theorem RE.all {w0 w : World} {R A B : Nat} {s : ByteArray} {a : Nat} {X : EM} (h : RE w0 w R A B s a X) : w.cell? ⟨R, 0, none⟩ = some (.string s) ∧ w.cell? ⟨R, 1, none⟩ = some (.int .i64 (a : Nat)) ∧ w.cell? ⟨B, 0, none⟩ = some (.int .i64 X.kind) ∧ w.cell? ⟨B, 1, none⟩ = some (.string X.path) ∧ w.cell? ⟨B, 2, none⟩ = some (.string X.dest) ∧ w.cell? ⟨B, 3, none⟩ = some (.int .i64 X.num) ∧ w.cell? ⟨B, 4, none⟩ = some (.int .i64 X.who) :=
  ⟨h.1.got.1, h.1.got.2, (h.got 0 _ rfl).1, (h.got 1 _ rfl).1, (h.got 2 _ rfl).1, (h.got 3 _ rfl).1, (h.got 4 _ rfl).1⟩
theorem RE.put {w0 w : World} {R A B : Nat} {s : ByteArray} {a : Nat} {X : EM} (h : RE w0 w R A B s a X) (Z : EM) : Turned w0 (put5 w A Z) R (R + 1) :=
  ((((h.2.2.2.1.fresh ⟨A, 0, none⟩ _ h.2.2.2.2.2.2.1).fresh ⟨A, 1, none⟩ _ h.2.2.2.2.2.2.1).fresh ⟨A, 2, none⟩ _ h.2.2.2.2.2.2.1).fresh ⟨A, 3, none⟩ _ h.2.2.2.2.2.2.1).fresh ⟨A, 4, none⟩ _ h.2.2.2.2.2.2.1
theorem re_new (w : World) (R : Nat) (s : ByteArray) (a : Nat) (h : RdC w R s a) (T T' : TypeId) : RE w ((w.alloc (.cells #[.int .i64 0, .string ⟨#[]⟩, .string ⟨#[]⟩, .int .i64 0, .int .i64 0] T)).alloc (.cells #[.int .i64 0, .string ⟨#[]⟩, .string ⟨#[]⟩, .int .i64 0, .int .i64 0] T')) R w.heap.size (w.heap.size + 1) s a zeroE := by
  have hb : Below w.heap.size w ((w.alloc (.cells #[.int .i64 0, .string ⟨#[]⟩, .string ⟨#[]⟩, .int .i64 0, .int .i64 0] T)).alloc (.cells #[.int .i64 0, .string ⟨#[]⟩, .string ⟨#[]⟩, .int .i64 0, .int .i64 0] T')) := ((Below.refl _ _).alloc (Nat.le_refl _) _).alloc (by simp) _
  refine ⟨h.later hb, (wcells_new w #[.int .i64 0, .string ⟨#[]⟩, .string ⟨#[]⟩, .int .i64 0, .int .i64 0] T).alloc _, ?_, Turned.of_below hb _ _, by omega, h.1, Nat.le_refl _, Nat.le_succ _⟩
  have := wcells_new (w.alloc (.cells #[.int .i64 0, .string ⟨#[]⟩, .string ⟨#[]⟩, .int .i64 0, .int .i64 0] T)) #[.int .i64 0, .string ⟨#[]⟩, .string ⟨#[]⟩, .int .i64 0, .int .i64 0] T'
  have e : (w.alloc (.cells #[.int .i64 0, .string ⟨#[]⟩, .string ⟨#[]⟩, .int .i64 0, .int .i64 0] T)).heap.size = w.heap.size + 1 := by simp
  rw [e] at this
  exact this
theorem put5_cells {w : World} {A : Nat} {X : EM} (h : WCells w A (ecells X)) (Z : EM) : WCells (put5 w A Z) A (ecells Z) :=
  ((((h.set 0 (.int .i64 Z.kind) (by simp [ecells])).set 1 (.string Z.path) (by simp [ecells])).set 2 (.string Z.dest) (by simp [ecells])).set 3 (.int .i64 Z.num) (by simp [ecells])).set 4 (.int .i64 Z.who) (by simp [ecells])
/-- What the reader does. -/
def EdPost (s : ByteArray) (w : World) (R : Nat) (e : Ending) (w' : World) : Prop := (∃ X, progE s = some X ∧ e = .returned (ev X) ∧ Turned w w' R (R + 1)) ∨ (progE s = none ∧ e = .panicked noRec ∧ Turned w w' R (R + 1))
set_option maxRecDepth 100000 in
set_option maxHeartbeats 2000000 in
theorem implEdit (R : Nat) (s : ByteArray) (w : World) (h : RdC w R s 0) (hs : s.size ≤ 1048576) : Calls Tryd.prog 50 #[.pointer (some ⟨R, 0, none⟩)] w fun e w' => EdPost s w R e w' := by
  have HN := Shut.mk (re_new w R s 0 h 28 28)
  clear h
  go_enter Tryd.func50, Tryd.ntmps50
  go_upto_region 2 with fail
  obtain ⟨W0, hW0⟩ : ∃ W0, W0 = (w.alloc (.cells #[.int .i64 0, .string ⟨#[]⟩, .string ⟨#[]⟩, .int .i64 0, .int .i64 0] 28)).alloc (.cells #[.int .i64 0, .string ⟨#[]⟩, .string ⟨#[]⟩, .int .i64 0, .int .i64 0] 28) := ⟨_, rfl⟩
  rw [← hW0] at HN ⊢
  clear hW0
  by_cases q0 : s.size ≤ 0
  · have HNO : Shut (progE s = none) := ⟨by unfold progE; rw [if_neg (by omega)]⟩
    have HC := Shut.mk (implOne_no R s 0 W0 HN.out.1 q0)
    clear q0
    go_wp2_with (go_at_call 57; refine HC.out.mono ?_; rintro e w1 ⟨rfl, hb1⟩)
    exact ⟨rfl, Or.inr ⟨HNO.out, rfl, (HN.out.below hb1).2.2.2.1⟩⟩
  have HC := Shut.mk (implOne_yes R s 0 W0 HN.out.1 (by omega) hs)
  have HC0 := Shut.mk (implOne_yes R s 0 W0 HN.out.1 (by omega) hs)
  go_upto_region 3 with (go_at_call 57; refine HC0.out.mono ?_; rintro e w1 ⟨rfl, ht1, hr1⟩; have H9 := Shut.mk (HN.out.turned ht1 hr1); clear ht1 hr1; obtain ⟨g1, g2⟩ := H9.out.got 0 _ rfl)
  obtain ⟨W1, hW1⟩ : ∃ W, W = w1.setCell ⟨w.heap.size + 1, 0, none⟩ (Value.int .i64 (bt s 0)) := ⟨_, rfl⟩
  rw [← hW1]
  have H1 : Shut (RE w W1 R w.heap.size (w.heap.size + 1) s 1 ⟨bt s 0, ⟨#[]⟩, ⟨#[]⟩, 0, 0⟩) := ⟨by rw [hW1]; exact H9.out.set 0 _ (by omega) rfl⟩
  clear hW1 H9 g1 g2 HC0 HN
  by_cases q1 : s.size ≤ 1
  · have HNO : Shut (progE s = none) := ⟨by unfold progE; rw [if_neg (by omega)]⟩
    have HC := Shut.mk (implOne_no R s 1 W1 H1.out.1 q1)
    clear q1 q0
    go_wp2_with (go_at_call 57; refine HC.out.mono ?_; rintro e w1 ⟨rfl, hb1⟩)
    exact ⟨rfl, Or.inr ⟨HNO.out, rfl, (H1.out.below hb1).2.2.2.1⟩⟩
  have HC1 := Shut.mk (implOne_yes R s 1 W1 H1.out.1 (by omega) hs)
  go_upto_region 4 with (go_at_call 57; refine HC1.out.mono ?_; rintro e w1 ⟨rfl, ht1, hr1⟩; have H9 := Shut.mk (H1.out.turned ht1 hr1); clear ht1 hr1; obtain ⟨g1, g2⟩ := H9.out.got 4 _ rfl)
  obtain ⟨W2, hW2⟩ : ∃ W, W = w1.setCell ⟨w.heap.size + 1, 4, none⟩ (Value.int .i64 (bt s 1)) := ⟨_, rfl⟩
  rw [← hW2]
  have H2 : Shut (RE w W2 R w.heap.size (w.heap.size + 1) s 2 ⟨bt s 0, ⟨#[]⟩, ⟨#[]⟩, 0, bt s 1⟩) := ⟨by rw [hW2]; exact H9.out.set 4 _ (by omega) rfl⟩
  clear hW2 H9 g1 g2 HC1 H1
  have q2 : 2 ≤ s.size := by omega
  clear q0 q1
  cases e1 : readShortI s 2 with
  | none =>
    have HNO : Shut (progE s = none) := ⟨by unfold progE; rw [if_pos q2, e1]⟩
    have HC := Shut.mk (implShort_no R s 2 W2 H2.out.1 hs e1)
    clear q2 e1
    go_wp2_with (go_at_call 58; refine HC.out.mono ?_; rintro e w1 ⟨rfl, hb1⟩)
    exact ⟨rfl, Or.inr ⟨HNO.out, rfl, (H2.out.below hb1).2.2.2.1⟩⟩
  | some x1 =>
  obtain ⟨p, a1⟩ := x1
  have HC2 := Shut.mk (implShort_yes R s 2 W2 H2.out.1 hs p a1 e1)
  go_upto_region 5 with (go_at_call 58; refine HC2.out.mono ?_; rintro e w1 ⟨rfl, ht1, hr1⟩; have H9 := Shut.mk (H2.out.turned ht1 hr1); clear ht1 hr1; obtain ⟨g1, g2⟩ := H9.out.got 1 _ rfl)
  obtain ⟨W3, hW3⟩ : ∃ W, W = w1.setCell ⟨w.heap.size + 1, 1, none⟩ (Value.string p) := ⟨_, rfl⟩
  rw [← hW3]
  have H3 : Shut (RE w W3 R w.heap.size (w.heap.size + 1) s a1 ⟨bt s 0, p, ⟨#[]⟩, 0, bt s 1⟩) := ⟨by rw [hW3]; exact H9.out.set 1 _ (by omega) rfl⟩
  clear hW3 H9 g1 g2 HC2 H2
  cases e2 : readShortI s (a1 : Nat) with
  | none =>
    have HNO : Shut (progE s = none) := ⟨by unfold progE; rw [if_pos q2, e1]; dsimp only; rw [e2]⟩
    have HC := Shut.mk (implShort_no R s a1 W3 H3.out.1 hs e2)
    clear q2 e1 e2
    go_wp2_with (go_at_call 58; refine HC.out.mono ?_; rintro e w1 ⟨rfl, hb1⟩)
    exact ⟨rfl, Or.inr ⟨HNO.out, rfl, (H3.out.below hb1).2.2.2.1⟩⟩
  | some x2 =>
  obtain ⟨t, a2⟩ := x2
  have HC3 := Shut.mk (implShort_yes R s a1 W3 H3.out.1 hs t a2 e2)
  go_upto_region 6 with (go_at_call 58; refine HC3.out.mono ?_; rintro e w1 ⟨rfl, ht1, hr1⟩; have H9 := Shut.mk (H3.out.turned ht1 hr1); clear ht1 hr1; obtain ⟨g1, g2⟩ := H9.out.got 2 _ rfl)
  obtain ⟨W4, hW4⟩ : ∃ W, W = w1.setCell ⟨w.heap.size + 1, 2, none⟩ (Value.string t) := ⟨_, rfl⟩
  rw [← hW4]
  have H4 : Shut (RE w W4 R w.heap.size (w.heap.size + 1) s a2 ⟨bt s 0, p, t, 0, bt s 1⟩) := ⟨by rw [hW4]; exact H9.out.set 2 _ (by omega) rfl⟩
  clear hW4 H9 g1 g2 HC3 H3
  cases e3 : readVarI s (a2 : Nat) with
  | none =>
    have HNO : Shut (progE s = none) := ⟨by unfold progE; rw [if_pos q2, e1]; dsimp only; rw [e2]; dsimp only; rw [e3]⟩
    have HC := Shut.mk (implNumber_no R s a2 W4 H4.out.1 hs e3)
    clear q2 e1 e2 e3
    go_wp2_with (go_at_call 59; refine HC.out.mono ?_; rintro e w1 ⟨rfl, hb1⟩)
    exact ⟨rfl, Or.inr ⟨HNO.out, rfl, (H4.out.below hb1).2.2.2.1⟩⟩
  | some x3 =>
  obtain ⟨n, a3⟩ := x3
  have HC4 := Shut.mk (implNumber_yes R s a2 W4 H4.out.1 hs n a3 e3)
  go_upto_region 7 with (go_at_call 59; refine HC4.out.mono ?_; rintro e w1 ⟨rfl, ht1, hr1⟩; have H9 := Shut.mk (H4.out.turned ht1 hr1); clear ht1 hr1; obtain ⟨g1, g2⟩ := H9.out.got 3 _ rfl)
  obtain ⟨W5, hW5⟩ : ∃ W, W = w1.setCell ⟨w.heap.size + 1, 3, none⟩ (Value.int .i64 (n : Nat)) := ⟨_, rfl⟩
  rw [← hW5]
  have H5 : Shut (RE w W5 R w.heap.size (w.heap.size + 1) s a3 ⟨bt s 0, p, t, (n : Nat), bt s 1⟩) := ⟨by rw [hW5]; exact H9.out.set 3 _ (by omega) rfl⟩
  clear hW5 H9 g1 g2 HC4 H4
  have hp : p.size ≤ 1048576 := by have := short_size s 2; rw [e1] at this; exact Nat.le_trans this (by omega)
  have htz : t.size ≤ 1048576 := by have := short_size s (a1 : Nat); rw [e2] at this; exact Nat.le_trans this (by omega)
  have HOK := Shut.mk (fun x => implEditOk ⟨bt s 0, p, t, (n : Nat), bt s 1⟩ x ⟨hp, htz⟩)
  have HPE : Shut (progE s = if (a3 = s.size ∧ editOk ⟨bt s 0, p, t, (n : Nat), bt s 1⟩ = true) then some ⟨bt s 0, p, t, (n : Nat), bt s 1⟩ else none) := ⟨by unfold progE; rw [if_pos q2, e1]; dsimp only; rw [e2]; dsimp only; rw [e3]⟩
  clear hp htz e1 e2 e3 q2
  by_cases ce : a3 = s.size
  case neg =>
    have HNO : Shut (progE s = none) := ⟨by rw [HPE.out, if_neg (fun hc => ce hc.1)]⟩
    have hd : (a3 == s.size) = false := by simp [ce]
    have hd2 : ((a3 : Int) == (s.size : Int)) = false := by simp; omega
    clear HPE ce HOK
    have HLE : Shut (∀ x, Later W5.drew x → x.cell? ⟨R, 0, none⟩ = some (.string s) ∧ x.cell? ⟨R, 1, none⟩ = some (.int .i64 (a3 : Nat)) ∧ x.cell? ⟨w.heap.size + 1, 0, none⟩ = some (.int .i64 (bt s 0)) ∧ x.cell? ⟨w.heap.size + 1, 1, none⟩ = some (.string p) ∧ x.cell? ⟨w.heap.size + 1, 2, none⟩ = some (.string t) ∧ x.cell? ⟨w.heap.size + 1, 3, none⟩ = some (.int .i64 (n : Nat)) ∧ x.cell? ⟨w.heap.size + 1, 4, none⟩ = some (.int .i64 (bt s 1))) := ⟨fun x hx => (H5.out.below (Below.trans (Below.drew (Below.refl _ _)) hx)).all⟩
    refine wp_region_later (by kernel_rfl) ?_
    refine wpL_val (i := 0) (v := ?vlen0) rfl (by kernel_rfl) (by kernel_rfl) (by kernel_rfl) (fun _ _ _ h => h) (by rfl) ?hylen0 ?restlen0
    case hylen0 => (intro x hx; go_simp; try with_reducible rfl)
    try simp only [Act.put, List.setIfInBounds_toArray, List.set_cons_zero, List.set_cons_succ]
    refine wpL_val (i := 1) (v := ?vlen1) rfl (by kernel_rfl) (by kernel_rfl) (by kernel_rfl) (fun _ _ _ h => h) (by rfl) ?hylen1 ?restlen1
    case hylen1 => (intro x hx; go_simp; try with_reducible rfl)
    try simp only [Act.put, List.setIfInBounds_toArray, List.set_cons_zero, List.set_cons_succ]
    refine wpL_val (i := 2) (v := ?vlen2) rfl (by kernel_rfl) (by kernel_rfl) (by kernel_rfl) (fun _ _ _ h => h) (by rfl) ?hylen2 ?restlen2
    case hylen2 => (intro x hx; go_simp; try with_reducible rfl)
    try simp only [Act.put, List.setIfInBounds_toArray, List.set_cons_zero, List.set_cons_succ]
    refine wpL_val (i := 3) (v := ?vlen3) rfl (by kernel_rfl) (by kernel_rfl) (by kernel_rfl) (fun _ _ _ h => h) (by rfl) ?hylen3 ?restlen3
    case hylen3 => (intro x hx; obtain ⟨d0, d1, c0, c1, c2, c3, c4⟩ := HLE.out x hx; go_simp; try with_reducible rfl)
    try simp only [Act.put, List.setIfInBounds_toArray, List.set_cons_zero, List.set_cons_succ]
    refine wpL_val (i := 4) (v := ?vlen4) rfl (by kernel_rfl) (by kernel_rfl) (by kernel_rfl) (fun _ _ _ h => h) (by rfl) ?hylen4 ?restlen4
    case hylen4 => (intro x hx; go_simp; try with_reducible rfl)
    try simp only [Act.put, List.setIfInBounds_toArray, List.set_cons_zero, List.set_cons_succ]
    refine wpL_val (i := 5) (v := ?vlen5) rfl (by kernel_rfl) (by kernel_rfl) (by kernel_rfl) (fun _ _ _ h => h) (by rfl) ?hylen5 ?restlen5
    case hylen5 => (intro x hx; go_simp; try with_reducible rfl)
    try simp only [Act.put, List.setIfInBounds_toArray, List.set_cons_zero, List.set_cons_succ]
    refine wpL_val (i := 6) (v := ?vlen6) rfl (by kernel_rfl) (by kernel_rfl) (by kernel_rfl) (fun _ _ _ h => h) (by rfl) ?hylen6 ?restlen6
    case hylen6 => (intro x hx; go_simp; try with_reducible rfl)
    try simp only [Act.put, List.setIfInBounds_toArray, List.set_cons_zero, List.set_cons_succ]
    refine wpL_val (i := 7) (v := ?vlen7) rfl (by kernel_rfl) (by kernel_rfl) (by kernel_rfl) (fun _ _ _ h => h) (by rfl) ?hylen7 ?restlen7
    case hylen7 => (intro x hx; obtain ⟨d0, d1, c0, c1, c2, c3, c4⟩ := HLE.out x hx; go_simp; try with_reducible rfl)
    try simp only [Act.put, List.setIfInBounds_toArray, List.set_cons_zero, List.set_cons_succ]
    refine wpL_val (i := 8) (v := ?vlen8) rfl (by kernel_rfl) (by kernel_rfl) (by kernel_rfl) (fun _ _ _ h => h) (by rfl) ?hylen8 ?restlen8
    case hylen8 => (intro x hx; go_simp; try with_reducible rfl)
    try simp only [Act.put, List.setIfInBounds_toArray, List.set_cons_zero, List.set_cons_succ]
    refine wpL_val (i := 9) (v := ?vlen9) rfl (by kernel_rfl) (by kernel_rfl) (by kernel_rfl) (fun _ _ _ h => h) (by rfl) ?hylen9 ?restlen9
    case hylen9 => (intro x hx; go_simp; try with_reducible rfl)
    try simp only [Act.put, List.setIfInBounds_toArray, List.set_cons_zero, List.set_cons_succ]
    refine wpL_val (i := 10) (v := ?vlen10) rfl (by kernel_rfl) (by kernel_rfl) (by kernel_rfl) (fun _ _ _ h => h) (by rfl) ?hylen10 ?restlen10
    case hylen10 => (intro x hx; go_simp; try with_reducible rfl)
    try simp only [Act.put, List.setIfInBounds_toArray, List.set_cons_zero, List.set_cons_succ]
    refine wpL_skip (i := 11) rfl (by kernel_rfl) (by kernel_rfl) (by kernel_rfl) (fun _ _ _ h => h) (by rfl) ?_
    try simp only [Act.put, List.setIfInBounds_toArray, List.set_cons_zero, List.set_cons_succ]
    refine wpL_skip (i := 12) rfl (by kernel_rfl) (by kernel_rfl) (by kernel_rfl) (fun _ _ _ h => h) (by rfl) ?_
    try simp only [Act.put, List.setIfInBounds_toArray, List.set_cons_zero, List.set_cons_succ]
    refine wpL_val (i := 13) (v := ?vlen13) rfl (by kernel_rfl) (by kernel_rfl) (by kernel_rfl) (fun _ _ _ h => h) (by rfl) ?hylen13 ?restlen13
    case hylen13 => (intro x hx; go_simp; try with_reducible rfl)
    try simp only [Act.put, List.setIfInBounds_toArray, List.set_cons_zero, List.set_cons_succ]
    refine wpL_panics (i := 14) (f := 60) (args := #[.bool false]) (chain := noRec) (by kernel_rfl) rfl (by rfl) ?hy14len ?hc14len
    case hy14len => (intro x hx; go_simp; try with_reducible rfl)
    intro x hx
    refine (implMust_no x).mono ?_
    rintro e y ⟨rfl, rfl⟩
    exact ⟨rfl, rfl, Or.inr ⟨HNO.out, rfl, (H5.out.below (Below.trans (Below.drew (Below.refl _ _)) hx)).2.2.2.1⟩⟩
  have hd : (a3 == s.size) = true := by simp [ce]
  have hd2 : ((a3 : Int) == (s.size : Int)) = true := by simp; omega
  have CE := Shut.mk ce
  clear ce
  cases ok : editOk ⟨bt s 0, p, t, (n : Nat), bt s 1⟩ with
  | false =>
    have HNO : Shut (progE s = none) := ⟨by rw [HPE.out, ok, if_neg (fun hc => by simp at hc)]⟩
    rw [ok] at HOK
    clear HPE ok
    have HLE : Shut (∀ x, Later W5.drew x → x.cell? ⟨R, 0, none⟩ = some (.string s) ∧ x.cell? ⟨R, 1, none⟩ = some (.int .i64 (a3 : Nat)) ∧ x.cell? ⟨w.heap.size + 1, 0, none⟩ = some (.int .i64 (bt s 0)) ∧ x.cell? ⟨w.heap.size + 1, 1, none⟩ = some (.string p) ∧ x.cell? ⟨w.heap.size + 1, 2, none⟩ = some (.string t) ∧ x.cell? ⟨w.heap.size + 1, 3, none⟩ = some (.int .i64 (n : Nat)) ∧ x.cell? ⟨w.heap.size + 1, 4, none⟩ = some (.int .i64 (bt s 1))) := ⟨fun x hx => (H5.out.below (Below.trans (Below.drew (Below.refl _ _)) hx)).all⟩
    refine wp_region_later (by kernel_rfl) ?_
    refine wpL_val (i := 0) (v := ?vbad0) rfl (by kernel_rfl) (by kernel_rfl) (by kernel_rfl) (fun _ _ _ h => h) (by rfl) ?hybad0 ?restbad0
    case hybad0 => (intro x hx; go_simp; try with_reducible rfl)
    try simp only [Act.put, List.setIfInBounds_toArray, List.set_cons_zero, List.set_cons_succ]
    refine wpL_val (i := 1) (v := ?vbad1) rfl (by kernel_rfl) (by kernel_rfl) (by kernel_rfl) (fun _ _ _ h => h) (by rfl) ?hybad1 ?restbad1
    case hybad1 => (intro x hx; go_simp; try with_reducible rfl)
    try simp only [Act.put, List.setIfInBounds_toArray, List.set_cons_zero, List.set_cons_succ]
    refine wpL_val (i := 2) (v := ?vbad2) rfl (by kernel_rfl) (by kernel_rfl) (by kernel_rfl) (fun _ _ _ h => h) (by rfl) ?hybad2 ?restbad2
    case hybad2 => (intro x hx; go_simp; try with_reducible rfl)
    try simp only [Act.put, List.setIfInBounds_toArray, List.set_cons_zero, List.set_cons_succ]
    refine wpL_val (i := 3) (v := ?vbad3) rfl (by kernel_rfl) (by kernel_rfl) (by kernel_rfl) (fun _ _ _ h => h) (by rfl) ?hybad3 ?restbad3
    case hybad3 => (intro x hx; obtain ⟨d0, d1, c0, c1, c2, c3, c4⟩ := HLE.out x hx; go_simp; try with_reducible rfl)
    try simp only [Act.put, List.setIfInBounds_toArray, List.set_cons_zero, List.set_cons_succ]
    refine wpL_val (i := 4) (v := ?vbad4) rfl (by kernel_rfl) (by kernel_rfl) (by kernel_rfl) (fun _ _ _ h => h) (by rfl) ?hybad4 ?restbad4
    case hybad4 => (intro x hx; go_simp; try with_reducible rfl)
    try simp only [Act.put, List.setIfInBounds_toArray, List.set_cons_zero, List.set_cons_succ]
    refine wpL_val (i := 5) (v := ?vbad5) rfl (by kernel_rfl) (by kernel_rfl) (by kernel_rfl) (fun _ _ _ h => h) (by rfl) ?hybad5 ?restbad5
    case hybad5 => (intro x hx; go_simp; try with_reducible rfl)
    try simp only [Act.put, List.setIfInBounds_toArray, List.set_cons_zero, List.set_cons_succ]
    refine wpL_val (i := 6) (v := ?vbad6) rfl (by kernel_rfl) (by kernel_rfl) (by kernel_rfl) (fun _ _ _ h => h) (by rfl) ?hybad6 ?restbad6
    case hybad6 => (intro x hx; go_simp; try with_reducible rfl)
    try simp only [Act.put, List.setIfInBounds_toArray, List.set_cons_zero, List.set_cons_succ]
    refine wpL_val (i := 7) (v := ?vbad7) rfl (by kernel_rfl) (by kernel_rfl) (by kernel_rfl) (fun _ _ _ h => h) (by rfl) ?hybad7 ?restbad7
    case hybad7 => (intro x hx; obtain ⟨d0, d1, c0, c1, c2, c3, c4⟩ := HLE.out x hx; go_simp; try with_reducible rfl)
    try simp only [Act.put, List.setIfInBounds_toArray, List.set_cons_zero, List.set_cons_succ]
    refine wpL_val (i := 8) (v := ?vbad8) rfl (by kernel_rfl) (by kernel_rfl) (by kernel_rfl) (fun _ _ _ h => h) (by rfl) ?hybad8 ?restbad8
    case hybad8 => (intro x hx; go_simp; try with_reducible rfl)
    try simp only [Act.put, List.setIfInBounds_toArray, List.set_cons_zero, List.set_cons_succ]
    refine wpL_val (i := 9) (v := ?vbad9) rfl (by kernel_rfl) (by kernel_rfl) (by kernel_rfl) (fun _ _ _ h => h) (by rfl) ?hybad9 ?restbad9
    case hybad9 => (intro x hx; go_simp; try with_reducible rfl)
    try simp only [Act.put, List.setIfInBounds_toArray, List.set_cons_zero, List.set_cons_succ]
    refine wpL_val (i := 10) (v := ?vbad10) rfl (by kernel_rfl) (by kernel_rfl) (by kernel_rfl) (fun _ _ _ h => h) (by rfl) ?hybad10 ?restbad10
    case hybad10 => (intro x hx; go_simp; try with_reducible rfl)
    try simp only [Act.put, List.setIfInBounds_toArray, List.set_cons_zero, List.set_cons_succ]
    refine wpL_val (i := 11) (v := ?vbad11) rfl (by kernel_rfl) (by kernel_rfl) (by kernel_rfl) (fun _ _ _ h => h) (by rfl) ?hybad11 ?restbad11
    case hybad11 => (intro x hx; obtain ⟨d0, d1, c0, c1, c2, c3, c4⟩ := HLE.out x hx; go_simp; try with_reducible rfl)
    try simp only [Act.put, List.setIfInBounds_toArray, List.set_cons_zero, List.set_cons_succ]
    refine wpL_call (i := 12) (v := .bool false) (f := 32) (args := #[ev ⟨bt s 0, p, t, (n : Nat), bt s 1⟩]) rfl (by kernel_rfl) (by kernel_rfl) (by kernel_rfl) (fun _ _ _ h => h) (by rfl) ?hybad12 (fun x _ => HOK.out x) ?restbad12
    case hybad12 => (intro x hx; obtain ⟨d0, d1, c0, c1, c2, c3, c4⟩ := HLE.out x hx; go_simp; try with_reducible rfl)
    try simp only [Act.put, List.setIfInBounds_toArray, List.set_cons_zero, List.set_cons_succ]
    refine wpL_val (i := 13) (v := ?vbad13) rfl (by kernel_rfl) (by kernel_rfl) (by kernel_rfl) (fun _ _ _ h => h) (by rfl) ?hybad13 ?restbad13
    case hybad13 => (intro x hx; go_simp; try with_reducible rfl)
    try simp only [Act.put, List.setIfInBounds_toArray, List.set_cons_zero, List.set_cons_succ]
    refine wpL_panics (i := 14) (f := 60) (args := #[.bool false]) (chain := noRec) (by kernel_rfl) rfl (by rfl) ?hy14bad ?hc14bad
    case hy14bad => (intro x hx; go_simp; try with_reducible rfl)
    intro x hx
    refine (implMust_no x).mono ?_
    rintro e y ⟨rfl, rfl⟩
    exact ⟨rfl, rfl, Or.inr ⟨HNO.out, rfl, (H5.out.below (Below.trans (Below.drew (Below.refl _ _)) hx)).2.2.2.1⟩⟩
  | true =>
    have HYES : Shut (progE s = some ⟨bt s 0, p, t, (n : Nat), bt s 1⟩) := ⟨by rw [HPE.out, ok, if_pos ⟨CE.out, rfl⟩]⟩
    rw [ok] at HOK
    clear HPE ok
    have HLE : Shut (∀ x, Later W5.drew x → x.cell? ⟨R, 0, none⟩ = some (.string s) ∧ x.cell? ⟨R, 1, none⟩ = some (.int .i64 (a3 : Nat)) ∧ x.cell? ⟨w.heap.size + 1, 0, none⟩ = some (.int .i64 (bt s 0)) ∧ x.cell? ⟨w.heap.size + 1, 1, none⟩ = some (.string p) ∧ x.cell? ⟨w.heap.size + 1, 2, none⟩ = some (.string t) ∧ x.cell? ⟨w.heap.size + 1, 3, none⟩ = some (.int .i64 (n : Nat)) ∧ x.cell? ⟨w.heap.size + 1, 4, none⟩ = some (.int .i64 (bt s 1))) := ⟨fun x hx => (H5.out.below (Below.trans (Below.drew (Below.refl _ _)) hx)).all⟩
    refine wp_region_later (by kernel_rfl) ?_
    refine wpL_val (i := 0) (v := ?vyes0) rfl (by kernel_rfl) (by kernel_rfl) (by kernel_rfl) (fun _ _ _ h => h) (by rfl) ?hyyes0 ?restyes0
    case hyyes0 => (intro x hx; go_simp; try with_reducible rfl)
    try simp only [Act.put, List.setIfInBounds_toArray, List.set_cons_zero, List.set_cons_succ]
    refine wpL_val (i := 1) (v := ?vyes1) rfl (by kernel_rfl) (by kernel_rfl) (by kernel_rfl) (fun _ _ _ h => h) (by rfl) ?hyyes1 ?restyes1
    case hyyes1 => (intro x hx; go_simp; try with_reducible rfl)
    try simp only [Act.put, List.setIfInBounds_toArray, List.set_cons_zero, List.set_cons_succ]
    refine wpL_val (i := 2) (v := ?vyes2) rfl (by kernel_rfl) (by kernel_rfl) (by kernel_rfl) (fun _ _ _ h => h) (by rfl) ?hyyes2 ?restyes2
    case hyyes2 => (intro x hx; go_simp; try with_reducible rfl)
    try simp only [Act.put, List.setIfInBounds_toArray, List.set_cons_zero, List.set_cons_succ]
    refine wpL_val (i := 3) (v := ?vyes3) rfl (by kernel_rfl) (by kernel_rfl) (by kernel_rfl) (fun _ _ _ h => h) (by rfl) ?hyyes3 ?restyes3
    case hyyes3 => (intro x hx; obtain ⟨d0, d1, c0, c1, c2, c3, c4⟩ := HLE.out x hx; go_simp; try with_reducible rfl)
    try simp only [Act.put, List.setIfInBounds_toArray, List.set_cons_zero, List.set_cons_succ]
    refine wpL_val (i := 4) (v := ?vyes4) rfl (by kernel_rfl) (by kernel_rfl) (by kernel_rfl) (fun _ _ _ h => h) (by rfl) ?hyyes4 ?restyes4
    case hyyes4 => (intro x hx; go_simp; try with_reducible rfl)
    try simp only [Act.put, List.setIfInBounds_toArray, List.set_cons_zero, List.set_cons_succ]
    refine wpL_val (i := 5) (v := ?vyes5) rfl (by kernel_rfl) (by kernel_rfl) (by kernel_rfl) (fun _ _ _ h => h) (by rfl) ?hyyes5 ?restyes5
    case hyyes5 => (intro x hx; go_simp; try with_reducible rfl)
    try simp only [Act.put, List.setIfInBounds_toArray, List.set_cons_zero, List.set_cons_succ]
    refine wpL_val (i := 6) (v := ?vyes6) rfl (by kernel_rfl) (by kernel_rfl) (by kernel_rfl) (fun _ _ _ h => h) (by rfl) ?hyyes6 ?restyes6
    case hyyes6 => (intro x hx; go_simp; try with_reducible rfl)
    try simp only [Act.put, List.setIfInBounds_toArray, List.set_cons_zero, List.set_cons_succ]
    refine wpL_val (i := 7) (v := ?vyes7) rfl (by kernel_rfl) (by kernel_rfl) (by kernel_rfl) (fun _ _ _ h => h) (by rfl) ?hyyes7 ?restyes7
    case hyyes7 => (intro x hx; obtain ⟨d0, d1, c0, c1, c2, c3, c4⟩ := HLE.out x hx; go_simp; try with_reducible rfl)
    try simp only [Act.put, List.setIfInBounds_toArray, List.set_cons_zero, List.set_cons_succ]
    refine wpL_val (i := 8) (v := ?vyes8) rfl (by kernel_rfl) (by kernel_rfl) (by kernel_rfl) (fun _ _ _ h => h) (by rfl) ?hyyes8 ?restyes8
    case hyyes8 => (intro x hx; go_simp; try with_reducible rfl)
    try simp only [Act.put, List.setIfInBounds_toArray, List.set_cons_zero, List.set_cons_succ]
    refine wpL_val (i := 9) (v := ?vyes9) rfl (by kernel_rfl) (by kernel_rfl) (by kernel_rfl) (fun _ _ _ h => h) (by rfl) ?hyyes9 ?restyes9
    case hyyes9 => (intro x hx; go_simp; try with_reducible rfl)
    try simp only [Act.put, List.setIfInBounds_toArray, List.set_cons_zero, List.set_cons_succ]
    refine wpL_val (i := 10) (v := ?vyes10) rfl (by kernel_rfl) (by kernel_rfl) (by kernel_rfl) (fun _ _ _ h => h) (by rfl) ?hyyes10 ?restyes10
    case hyyes10 => (intro x hx; go_simp; try with_reducible rfl)
    try simp only [Act.put, List.setIfInBounds_toArray, List.set_cons_zero, List.set_cons_succ]
    refine wpL_val (i := 11) (v := ?vyes11) rfl (by kernel_rfl) (by kernel_rfl) (by kernel_rfl) (fun _ _ _ h => h) (by rfl) ?hyyes11 ?restyes11
    case hyyes11 => (intro x hx; obtain ⟨d0, d1, c0, c1, c2, c3, c4⟩ := HLE.out x hx; go_simp; try with_reducible rfl)
    try simp only [Act.put, List.setIfInBounds_toArray, List.set_cons_zero, List.set_cons_succ]
    refine wpL_call (i := 12) (v := .bool true) (f := 32) (args := #[ev ⟨bt s 0, p, t, (n : Nat), bt s 1⟩]) rfl (by kernel_rfl) (by kernel_rfl) (by kernel_rfl) (fun _ _ _ h => h) (by rfl) ?hyyes12 (fun x _ => HOK.out x) ?restyes12
    case hyyes12 => (intro x hx; obtain ⟨d0, d1, c0, c1, c2, c3, c4⟩ := HLE.out x hx; go_simp; try with_reducible rfl)
    try simp only [Act.put, List.setIfInBounds_toArray, List.set_cons_zero, List.set_cons_succ]
    refine wpL_val (i := 13) (v := ?vyes13) rfl (by kernel_rfl) (by kernel_rfl) (by kernel_rfl) (fun _ _ _ h => h) (by rfl) ?hyyes13 ?restyes13
    case hyyes13 => (intro x hx; go_simp; try with_reducible rfl)
    try simp only [Act.put, List.setIfInBounds_toArray, List.set_cons_zero, List.set_cons_succ]
    refine wpL_call (i := 14) (v := .tuple #[]) (f := 60) (args := #[.bool true]) rfl (by kernel_rfl) (by kernel_rfl) (by kernel_rfl) (fun _ _ _ h => h) (by rfl) ?hyyes14 (fun x _ => must_yes x) ?restyes14
    case hyyes14 => (intro x hx; obtain ⟨d0, d1, c0, c1, c2, c3, c4⟩ := HLE.out x hx; go_simp; try with_reducible rfl)
    try simp only [Act.put, List.setIfInBounds_toArray, List.set_cons_zero, List.set_cons_succ]
    refine wpL_done (by kernel_rfl) ?_ _
    intro y hy
    have H6 := Shut.mk (H5.out.below (Below.trans (Below.drew (Below.refl _ _)) hy))
    have g0 := H6.out.all
    obtain ⟨-, -, c0, c1, c2, c3, c4⟩ := g0
    have z0 := H6.out.2.1.2 0 _ rfl
    have z1 := H6.out.2.1.2 1 _ rfl
    have z2 := H6.out.2.1.2 2 _ rfl
    have z3 := H6.out.2.1.2 3 _ rfl
    have z4 := H6.out.2.1.2 4 _ rfl
    obtain ⟨y0, z0⟩ := z0
    obtain ⟨y1, z1⟩ := z1
    obtain ⟨y2, z2⟩ := z2
    obtain ⟨y3, z3⟩ := z3
    obtain ⟨y4, z4⟩ := z4
    dsimp only at c0 c1 c2 c3 c4
    have hAh := H6.out.2.1.1
    clear hy HLE
    go_wp2_with fail
    have HP := Shut.mk (H6.out.put ⟨bt s 0, p, t, (n : Nat), bt s 1⟩)
    have HQ := Shut.mk (put5_cells H6.out.2.1 ⟨bt s 0, p, t, (n : Nat), bt s 1⟩)
    change bodyPost _ _ _ _ _ (put5 y w.heap.size ⟨bt s 0, p, t, (n : Nat), bt s 1⟩)
    generalize put5 y w.heap.size ⟨bt s 0, p, t, (n : Nat), bt s 1⟩ = w8 at HP HQ ⊢
    obtain ⟨k0, -⟩ := HQ.out.2 0 _ rfl
    obtain ⟨k1, -⟩ := HQ.out.2 1 _ rfl
    obtain ⟨k2, -⟩ := HQ.out.2 2 _ rfl
    obtain ⟨k3, -⟩ := HQ.out.2 3 _ rfl
    obtain ⟨k4, -⟩ := HQ.out.2 4 _ rfl
    dsimp only at k0 k1 k2 k3 k4
    refine bodyPost_ret (v := ev ⟨bt s 0, p, t, (n : Nat), bt s 1⟩) (by simp [results, Tryd.results50, go_sem, k0, k1, k2, k3, k4]) rfl (Or.inl ⟨_, HYES.out, rfl, HP.out⟩)
end Go.Proofs.YtoglebfiobofoaaDoor
/- EdW: The program's own ReadEdit: what gives up is caught. -/
namespace Go.Proofs.YtoglebfiobofoaaDoor
set_option maxRecDepth 100000
open Go.RowKit
attribute [local go_sem ↓] Go.wp_at_zero Go.wp_at_succ

set_option maxHeartbeats 1000000 in
theorem catch_panicking (E O : Nat) (X : EM) (b : Bool) (u : TypeId) (pv : Value) (older : List PanicEntry) (w : World) (hE : WCells w E (ecells X)) (hO : WCells w O [.bool b]) (hne : E ≠ O) :
    CallsD Tryd.prog 49 #[.pointer (some ⟨E, 0, none⟩), .pointer (some ⟨O, 0, none⟩)] (.panicking ({ v := .iface u pv, recovered := false } :: older)) w fun e u' w' =>
      e = .returned (.tuple #[]) ∧ u' = .panicking ({ v := .iface u pv, recovered := true } :: older) ∧ w' = (put5 w E zeroE).setCell ⟨O, 0, none⟩ (.bool false) := by
  obtain ⟨a0, b0⟩ := hE.2 0 _ rfl
  obtain ⟨a1, b1⟩ := hE.2 1 _ rfl
  obtain ⟨a2, b2⟩ := hE.2 2 _ rfl
  obtain ⟨a3, b3⟩ := hE.2 3 _ rfl
  obtain ⟨a4, b4⟩ := hE.2 4 _ rfl
  have hO2 : WCells (put5 w E zeroE) O [.bool b] := ((((hO.other ⟨E, 0, none⟩ _ (Ne.symm hne)).other ⟨E, 1, none⟩ _ (Ne.symm hne)).other ⟨E, 2, none⟩ _ (Ne.symm hne)).other ⟨E, 3, none⟩ _ (Ne.symm hne)).other ⟨E, 4, none⟩ _ (Ne.symm hne)
  obtain ⟨o0, o1⟩ := hO2.2 0 _ rfl
  clear hE hO hO2
  refine callsD_of_wpS Tryd.func49 rfl fun c₀ cs hu => ?_
  apply wpS_seq
  apply wpS_region
  simp [wpOpsS, go_sem, recoverD, hu, Tryd.ntmps49, Exit.thenS]
  refine wpS_cond (t := true) (by simp [Act.eval, Array.replicate]) ?_
  simp only [if_true]
  unfold put5 zeroE at o0 o1
  dsimp only at o0 o1
  refine wpS_of_wp ?_
  have e : (#[Value.pointer (some ⟨E, 0, none⟩), Value.pointer (some ⟨O, 0, none⟩)] ++ ((Array.replicate 3 undef).setIfInBounds 0 (Value.iface u pv)).setIfInBounds 1 (Value.bool true)) = #[Value.pointer (some ⟨E, 0, none⟩), Value.pointer (some ⟨O, 0, none⟩), Value.iface u pv, Value.bool true, undef] := by simp [Array.replicate]
  rw [e]
  go_wp2_with fail
  simp [bodyPostS, results, Tryd.results49, go_sem]
  rfl
theorem catch_idle (E O : Nat) (w : World) :
    CallsD Tryd.prog 49 #[.pointer (some ⟨E, 0, none⟩), .pointer (some ⟨O, 0, none⟩)] .returning w fun e u' w' => e = .returned (.tuple #[]) ∧ u' = .returning ∧ w' = w := by
  refine callsD_of_wpS Tryd.func49 rfl fun c₀ cs hu => ?_
  apply wpS_seq
  apply wpS_region
  simp [wpOpsS, go_sem, recoverD, hu, Tryd.ntmps49, Exit.thenS]
  refine wpS_cond (t := false) (by simp [Act.eval, Array.replicate]) ?_
  simp only [Bool.false_eq_true, if_false]
  refine wpS_of_wp (wp_skip ?_)
  cases c₀
  simp_all [bodyPostS, results, Tryd.results49]
theorem readE_new (w : World) (s : ByteArray) (T T' T'' : TypeId) :
    ∀ W, W = ((w.alloc (.cells #[.int .i64 0, .string ⟨#[]⟩, .string ⟨#[]⟩, .int .i64 0, .int .i64 0] T)).alloc (.cells #[.bool false] T')).alloc (.cells #[.string s, .int .i64 0] T'') →
      WCells W w.heap.size (ecells zeroE) ∧ WCells W (w.heap.size + 1) [.bool false] ∧ RdC W (w.heap.size + 1 + 1) s 0 ∧ Below w.heap.size w W := by
  rintro W rfl
  have h1 := wcells_new w #[.int .i64 0, .string ⟨#[]⟩, .string ⟨#[]⟩, .int .i64 0, .int .i64 0] T
  have h2 := wcells_new (w.alloc (.cells #[.int .i64 0, .string ⟨#[]⟩, .string ⟨#[]⟩, .int .i64 0, .int .i64 0] T)) #[.bool false] T'
  have h3 := wcells_new ((w.alloc (.cells #[.int .i64 0, .string ⟨#[]⟩, .string ⟨#[]⟩, .int .i64 0, .int .i64 0] T)).alloc (.cells #[.bool false] T')) #[.string s, .int .i64 0] T''
  have e1 : (w.alloc (.cells #[.int .i64 0, .string ⟨#[]⟩, .string ⟨#[]⟩, .int .i64 0, .int .i64 0] T)).heap.size = w.heap.size + 1 := by simp
  have e2 : ((w.alloc (.cells #[.int .i64 0, .string ⟨#[]⟩, .string ⟨#[]⟩, .int .i64 0, .int .i64 0] T)).alloc (.cells #[.bool false] T')).heap.size = w.heap.size + 1 + 1 := by simp
  rw [e1] at h2
  rw [e2] at h3
  exact ⟨(h1.alloc _).alloc _, h2.alloc _, h3, ((((Below.refl _ _).alloc (Nat.le_refl _) _).alloc (by simp) _).alloc (by simp; omega) _)⟩
theorem put5_other {w : World} {A B : Nat} {L : List Value} (h : WCells w B L) (hne : B ≠ A) (Z : EM) : WCells (put5 w A Z) B L :=
  ((((h.other ⟨A, 0, none⟩ _ hne).other ⟨A, 1, none⟩ _ hne).other ⟨A, 2, none⟩ _ hne).other ⟨A, 3, none⟩ _ hne).other ⟨A, 4, none⟩ _ hne
theorem put5_below {w w' : World} {A B : Nat} (h : Below B w w') (hA : B ≤ A) (Z : EM) : Below B w (put5 w' A Z) :=
  ((((h.setCell (p := ⟨A, 0, none⟩) hA _).setCell (p := ⟨A, 1, none⟩) hA _).setCell (p := ⟨A, 2, none⟩) hA _).setCell (p := ⟨A, 3, none⟩) hA _).setCell (p := ⟨A, 4, none⟩) hA _
set_option maxHeartbeats 1000000 in
theorem implReadEdit (s : ByteArray) (w : World) (hs : s.size ≤ 1048576) : Calls Tryd.prog 40 #[.string s] w fun r w' => r = .returned (.tuple #[ev (readE s).1, .bool (readE s).2]) ∧ Below w.heap.size w w' := by
  have hmf : ∀ (fn : Fn) (first cap : Array Value) (w : World), (Instr.makeFunc fn first cap).run Tryd.prog w = .ok (.func fn first cap) w := fun _ _ _ _ => rfl
  have HRE := Shut.mk (readE_prog s)
  go_enter_defers Tryd.func40, Tryd.ntmps40
  go_upto_region 3 with fail
  obtain ⟨W0, hW0⟩ : ∃ W0, W0 = ((w.alloc (.cells #[.int .i64 0, .string ⟨#[]⟩, .string ⟨#[]⟩, .int .i64 0, .int .i64 0] 28)).alloc (.cells #[.bool false] 4)).alloc (.cells #[.string s, .int .i64 0] 80) := ⟨_, rfl⟩
  have HN := Shut.mk (readE_new w s _ _ _ W0 hW0)
  rw [← hW0]
  clear hW0
  have HE := Shut.mk (implEdit (w.heap.size + 1 + 1) s W0 HN.out.2.2.1 hs)
  unfold EdPost at HE
  cases hp : progE s with
  | none =>
    rw [hp] at HRE HE
    clear hp
    go_wp2_with (go_at_call 50; refine HE.out.mono ?_; rintro e w1 (⟨X, hx, he, ht⟩ | ⟨-, rfl, ht⟩); (cases hx))
    have hE := HN.out.1.turned ht (by omega)
    have hO := HN.out.2.1.turned ht (by omega)
    refine leaves_cons (f := 49) (args := #[.pointer (some ⟨w.heap.size, 0, none⟩), .pointer (some ⟨w.heap.size + 1, 0, none⟩)]) (by simp) (by simp [go_sem]) ?_
    refine (catch_panicking w.heap.size (w.heap.size + 1) zeroE false _ _ [] _ hE hO (by omega)).mono ?_
    rintro e u' w'' ⟨rfl, rfl, rfl⟩
    have kE := (put5_cells hE zeroE).other ⟨w.heap.size + 1, 0, none⟩ (.bool false) (by show _ ≠ w.heap.size + 1; omega)
    have kO := (put5_other hO (by omega : w.heap.size + 1 ≠ w.heap.size) zeroE).set 0 (.bool false) (by simp)
    have kB := (put5_below (HN.out.2.2.2.trans (ht.below (by omega) HN.out.2.2.2.size)) (Nat.le_refl _) zeroE).setCell (p := ⟨w.heap.size + 1, 0, none⟩) (Nat.le_succ _) (.bool false)
    generalize (put5 w1 w.heap.size zeroE).setCell ⟨w.heap.size + 1, 0, none⟩ (.bool false) = w9 at kE kO kB ⊢
    obtain ⟨k0, -⟩ := kE.2 0 _ rfl
    obtain ⟨k1, -⟩ := kE.2 1 _ rfl
    obtain ⟨k2, -⟩ := kE.2 2 _ rfl
    obtain ⟨k3, -⟩ := kE.2 3 _ rfl
    obtain ⟨k4, -⟩ := kE.2 4 _ rfl
    obtain ⟨k5, -⟩ := kO.2 0 _ rfl
    have hr : readE s = (zeroE, false) := HRE.out
    rw [hr]
    simp [Leaves, settle, results, Tryd.results40, go_sem, k0, k1, k2, k3, k4, k5, kB]
  | some X =>
    rw [hp] at HRE HE
    clear hp
    obtain ⟨kind, path, dest, num, who⟩ := X
    go_wp2_with (go_at_call 50; refine HE.out.mono ?_; rintro e w1 (⟨Y, hx, rfl, ht⟩ | ⟨hx, -⟩); rotate_left; (cases hx); cases hx; have hE := Shut.mk (HN.out.1.turned ht (by omega)); have hO := Shut.mk (HN.out.2.1.turned ht (by omega)); have hT := Shut.mk ht; clear ht; obtain ⟨a0, b0⟩ := hE.out.2 0 _ rfl; obtain ⟨a1, b1⟩ := hE.out.2 1 _ rfl; obtain ⟨a2, b2⟩ := hE.out.2 2 _ rfl; obtain ⟨a3, b3⟩ := hE.out.2 3 _ rfl; obtain ⟨a4, b4⟩ := hE.out.2 4 _ rfl; have hO2 := put5_other hO.out (by omega : w.heap.size + 1 ≠ w.heap.size) ⟨kind, path, dest, num, who⟩; obtain ⟨a5, b5⟩ := hO2.2 0 _ rfl; unfold put5 at a5 b5; dsimp only at a5 b5; clear hO2)
    refine leaves_cons (f := 49) (args := #[.pointer (some ⟨w.heap.size, 0, none⟩), .pointer (some ⟨w.heap.size + 1, 0, none⟩)]) (by simp) (by simp [go_sem]) ?_
    refine (catch_idle w.heap.size (w.heap.size + 1) _).mono ?_
    rintro e u' w'' ⟨rfl, rfl, rfl⟩
    have kE := (put5_cells hE.out ⟨kind, path, dest, num, who⟩).other ⟨w.heap.size + 1, 0, none⟩ (.bool true) (by show _ ≠ w.heap.size + 1; omega)
    have kO := (put5_other hO.out (by omega : w.heap.size + 1 ≠ w.heap.size) ⟨kind, path, dest, num, who⟩).set 0 (.bool true) (by simp)
    have kB := (put5_below (HN.out.2.2.2.trans (hT.out.below (by omega) HN.out.2.2.2.size)) (Nat.le_refl _) ⟨kind, path, dest, num, who⟩).setCell (p := ⟨w.heap.size + 1, 0, none⟩) (Nat.le_succ _) (.bool true)
    unfold put5 at kE kO kB
    dsimp only at kE kO kB
    generalize (World.setCell _ ⟨w.heap.size + 1, 0, none⟩ (.bool true)) = w9 at kE kO kB ⊢
    obtain ⟨k0, -⟩ := kE.2 0 _ rfl
    obtain ⟨k1, -⟩ := kE.2 1 _ rfl
    obtain ⟨k2, -⟩ := kE.2 2 _ rfl
    obtain ⟨k3, -⟩ := kE.2 3 _ rfl
    obtain ⟨k4, -⟩ := kE.2 4 _ rfl
    obtain ⟨k5, -⟩ := kO.2 0 _ rfl
    have hr : readE s = (⟨kind, path, dest, num, who⟩, true) := HRE.out
    rw [hr]
    simp [Leaves, settle, results, Tryd.results40, go_sem, k0, k1, k2, k3, k4, k5, kB]
end Go.Proofs.YtoglebfiobofoaaDoor
/- MemA: What lies in memory through a law: boxes, and rows of their own. -/
namespace Go.Proofs.YtoglebfiobofoaaDoor
set_option maxRecDepth 100000
open Go.RowKit

theorem wc_grown {w w' : World} {g : Nat} {row : Option Nat} {L : List Value} (h : WCells w g L) (hg : w.grownBy w' row) (hr : row ≠ some g) : WCells w' g L := by
  have hblk := hg.block g h.1 (fun e => hr e.symm)
  refine ⟨Nat.lt_of_lt_of_le h.1 hg.size, fun i v hv => ⟨?_, ?_⟩⟩
  · rw [World.cell?_of_block (w := w) hblk]; exact (h.2 i v hv).1
  · rw [World.frozen?_of_block (w := w) hblk]; exact (h.2 i v hv).2
/-- A row of its own between two places, or none. -/
def FRw (w : World) (va : Option Addr) (X : List Value) (lo hi : Nat) : Prop := (va = none ∧ X = []) ∨ ∃ g, va = some ⟨g, 0, none⟩ ∧ lo ≤ g ∧ g < hi ∧ WCells w g X
theorem FRw.crow {w : World} {va : Option Addr} {X : List Value} {lo hi : Nat} (h : FRw w va X lo hi) : CRow w va X := by
  rcases h with ⟨_, rfl⟩ | ⟨g, rfl, _, _, h⟩
  · intro hp; simp at hp
  · exact h.crow
theorem FRw.below {w w' : World} {va : Option Addr} {X : List Value} {lo hi : Nat} (h : FRw w va X lo hi) (hb : Below w.heap.size w w') : FRw w' va X lo hi := by
  rcases h with h | ⟨g, h1, h2, h3, h⟩
  · exact .inl h
  · exact .inr ⟨g, h1, h2, h3, h.grow hb⟩
theorem FRw.grown {w w' : World} {va : Option Addr} {X : List Value} {lo hi : Nat} {row : Option Nat} (h : FRw w va X lo hi) (hg : w.grownBy w' row) (hr : ∀ g, row = some g → g < lo ∨ hi ≤ g) : FRw w' va X lo hi := by
  rcases h with h | ⟨g, h1, h2, h3, h⟩
  · exact .inl h
  · exact .inr ⟨g, h1, h2, h3, wc_grown h hg (fun e => by rcases hr g e with h | h <;> omega)⟩
theorem FRw.of_wcells {w : World} {g lo hi : Nat} {X : List Value} (h : WCells w g X) (h1 : lo ≤ g) (h2 : g < hi) : FRw w (some ⟨g, 0, none⟩) X lo hi := .inr ⟨g, rfl, h1, h2, h⟩
theorem FRw.wcells {w : World} {g lo hi : Nat} {X : List Value} (h : FRw w (some ⟨g, 0, none⟩) X lo hi) : WCells w g X := by
  rcases h with ⟨h, _⟩ | ⟨g', e, _, _, h⟩
  · cases h
  · have : g = g' := by simpa using e
    subst this; exact h
theorem FRw.of_own {w : World} {B n c t sz : Nat} {va : Option Addr} {X : List Value} (h : w.ownsRow B t sz (.slice va n c) n X) : FRw w va X B w.heap.size ∧ n ≤ c := by
  have h' := h
  rcases h.2 with ⟨h0, hX⟩ | ⟨g, cap, cur, he, hB, hcur, hn, _, _, _⟩
  · simp only [Value.slice.injEq] at h0
    obtain ⟨rfl, h1, rfl⟩ := h0
    refine ⟨.inl ⟨rfl, ?_⟩, by omega⟩
    have hl := h'.1
    rw [hX, Nat.zero_mul] at hl
    exact List.eq_nil_of_length_eq_zero hl
  · simp only [Value.slice.injEq] at he
    obtain ⟨rfl, _, rfl⟩ := he
    exact ⟨.inr ⟨g, rfl, hB, (Array.getElem?_eq_some_iff.1 hcur).1, own_wcells h'⟩, hn⟩
/-- Boxes and rows that lie in a world; what was there at the start is as it was. -/
structure Mem (w0 w : World) (L : List (Nat × List Value)) (R : List (Option Addr × List Value × Nat × Nat)) : Prop where
  cells : ∀ p ∈ L, WCells w p.1 p.2
  rows : ∀ r ∈ R, FRw w r.1 r.2.1 r.2.2.1 r.2.2.2
  low : Below w0.heap.size w0 w
theorem Mem.below {w0 w w' : World} {L : List (Nat × List Value)} {R : List (Option Addr × List Value × Nat × Nat)} (M : Mem w0 w L R) (hb : Below w.heap.size w w') : Mem w0 w' L R :=
  ⟨fun p hp => (M.cells p hp).grow hb, fun r hr => (M.rows r hr).below hb, M.low.trans (hb.mono M.low.size)⟩
theorem Mem.alloc {w0 w : World} {L : List (Nat × List Value)} {R : List (Option Addr × List Value × Nat × Nat)} (M : Mem w0 w L R) (o : Obj) : Mem w0 (w.alloc o) L R := M.below ((Below.refl _ _).alloc (Nat.le_refl _) o)
theorem Mem.drew {w0 w : World} {L : List (Nat × List Value)} {R : List (Option Addr × List Value × Nat × Nat)} (M : Mem w0 w L R) : Mem w0 w.drew L R := ⟨fun p hp => M.cells p hp, fun r hr => M.rows r hr, M.low.drew⟩
theorem Mem.box {w0 w : World} {L : List (Nat × List Value)} {R : List (Option Addr × List Value × Nat × Nat)} (M : Mem w0 w L R) (cs : Array Value) (t : TypeId) : Mem w0 (w.alloc (.cells cs t)) ((w.heap.size, cs.toList) :: L) R := by
  refine ⟨fun p hp => ?_, (M.alloc _).rows, (M.alloc _).low⟩
  rcases List.mem_cons.1 hp with rfl | h
  · exact wcells_new w cs t
  · exact (M.alloc _).cells p h
theorem Mem.row {w0 w : World} {L : List (Nat × List Value)} {R : List (Option Addr × List Value × Nat × Nat)} (M : Mem w0 w L R) {va : Option Addr} {X : List Value} {lo hi : Nat} (h : FRw w va X lo hi) : Mem w0 w L ((va, X, lo, hi) :: R) := by
  refine ⟨M.cells, fun r hr => ?_, M.low⟩
  rcases List.mem_cons.1 hr with rfl | h'
  · exact h
  · exact M.rows r h'
theorem Mem.less {w0 w : World} {L L' : List (Nat × List Value)} {R R' : List (Option Addr × List Value × Nat × Nat)} (M : Mem w0 w L R) (hL : ∀ p ∈ L', p ∈ L) (hR : ∀ r ∈ R', r ∈ R) : Mem w0 w L' R' := ⟨fun p hp => M.cells p (hL p hp), fun r hr => M.rows r (hR r hr), M.low⟩
theorem Mem.grown {w0 w w' : World} {L : List (Nat × List Value)} {R : List (Option Addr × List Value × Nat × Nat)} {row : Option Nat} (M : Mem w0 w L R) (hg : w.grownBy w' row) (hL : ∀ p ∈ L, ∀ g, row = some g → g ≠ p.1) (hR : ∀ r ∈ R, ∀ g, row = some g → g < r.2.2.1 ∨ r.2.2.2 ≤ g) (h0 : ∀ g, row = some g → w0.heap.size ≤ g) : Mem w0 w' L R :=
  ⟨fun p hp => wc_grown (M.cells p hp) hg (fun e => hL p hp _ e rfl), fun r hr => (M.rows r hr).grown hg (hR r hr), M.low.grown hg M.low.size h0⟩
theorem Mem.cell {w0 w : World} {L : List (Nat × List Value)} {R : List (Option Addr × List Value × Nat × Nat)} (M : Mem w0 w L R) {g : Nat} {v : Value} (h : (g, [v]) ∈ L) : w.cell? ⟨g, 0, none⟩ = some v := ((M.cells _ h).2 0 _ rfl).1
theorem Mem.lt {w0 w : World} {L : List (Nat × List Value)} {R : List (Option Addr × List Value × Nat × Nat)} (M : Mem w0 w L R) {g : Nat} {X : List Value} (h : (g, X) ∈ L) : g < w.heap.size := (M.cells _ h).1
theorem Mem.at {w0 w : World} {L : List (Nat × List Value)} {R : List (Option Addr × List Value × Nat × Nat)} (M : Mem w0 w L R) {va : Option Addr} {X : List Value} {lo hi : Nat} (h : (va, X, lo, hi) ∈ R) : FRw w va X lo hi := M.rows _ h

theorem Mem.at0 {w0 w : World} {L : List (Nat × List Value)} {R : List (Option Addr × List Value × Nat × Nat)} {va : Option Addr} {X : List Value} {lo hi : Nat} (M : Mem w0 w L ((va, X, lo, hi) :: R)) : FRw w va X lo hi := M.rows _ (List.mem_cons_self ..)
theorem Mem.cell0 {w0 w : World} {L : List (Nat × List Value)} {R : List (Option Addr × List Value × Nat × Nat)} {g : Nat} {v : Value} (M : Mem w0 w ((g, [v]) :: L) R) : w.cell? ⟨g, 0, none⟩ = some v := M.cell (List.mem_cons_self ..)
theorem Mem.lt0 {w0 w : World} {L : List (Nat × List Value)} {R : List (Option Addr × List Value × Nat × Nat)} {g : Nat} {X : List Value} (M : Mem w0 w ((g, X) :: L) R) : g < w.heap.size := M.lt (List.mem_cons_self ..)
theorem Mem.at1 {w0 w : World} {L : List (Nat × List Value)} {R : List (Option Addr × List Value × Nat × Nat)} {r0 : Option Addr × List Value × Nat × Nat} {va : Option Addr} {X : List Value} {lo hi : Nat} (M : Mem w0 w L (r0 :: (va, X, lo, hi) :: R)) : FRw w va X lo hi := M.rows _ (List.mem_cons_of_mem _ (List.mem_cons_self ..))
theorem Mem.cell1 {w0 w : World} {L : List (Nat × List Value)} {R : List (Option Addr × List Value × Nat × Nat)} {p0 : Nat × List Value} {g : Nat} {v : Value} (M : Mem w0 w (p0 :: (g, [v]) :: L) R) : w.cell? ⟨g, 0, none⟩ = some v := M.cell (List.mem_cons_of_mem _ (List.mem_cons_self ..))
theorem Mem.lt1 {w0 w : World} {L : List (Nat × List Value)} {R : List (Option Addr × List Value × Nat × Nat)} {p0 : Nat × List Value} {g : Nat} {X : List Value} (M : Mem w0 w (p0 :: (g, X) :: L) R) : g < w.heap.size := M.lt (List.mem_cons_of_mem _ (List.mem_cons_self ..))
theorem Mem.at2 {w0 w : World} {L : List (Nat × List Value)} {R : List (Option Addr × List Value × Nat × Nat)} {r0 : Option Addr × List Value × Nat × Nat} {r1 : Option Addr × List Value × Nat × Nat} {va : Option Addr} {X : List Value} {lo hi : Nat} (M : Mem w0 w L (r0 :: r1 :: (va, X, lo, hi) :: R)) : FRw w va X lo hi := M.rows _ (List.mem_cons_of_mem _ (List.mem_cons_of_mem _ (List.mem_cons_self ..)))
theorem Mem.cell2 {w0 w : World} {L : List (Nat × List Value)} {R : List (Option Addr × List Value × Nat × Nat)} {p0 : Nat × List Value} {p1 : Nat × List Value} {g : Nat} {v : Value} (M : Mem w0 w (p0 :: p1 :: (g, [v]) :: L) R) : w.cell? ⟨g, 0, none⟩ = some v := M.cell (List.mem_cons_of_mem _ (List.mem_cons_of_mem _ (List.mem_cons_self ..)))
theorem Mem.lt2 {w0 w : World} {L : List (Nat × List Value)} {R : List (Option Addr × List Value × Nat × Nat)} {p0 : Nat × List Value} {p1 : Nat × List Value} {g : Nat} {X : List Value} (M : Mem w0 w (p0 :: p1 :: (g, X) :: L) R) : g < w.heap.size := M.lt (List.mem_cons_of_mem _ (List.mem_cons_of_mem _ (List.mem_cons_self ..)))
theorem Mem.at3 {w0 w : World} {L : List (Nat × List Value)} {R : List (Option Addr × List Value × Nat × Nat)} {r0 : Option Addr × List Value × Nat × Nat} {r1 : Option Addr × List Value × Nat × Nat} {r2 : Option Addr × List Value × Nat × Nat} {va : Option Addr} {X : List Value} {lo hi : Nat} (M : Mem w0 w L (r0 :: r1 :: r2 :: (va, X, lo, hi) :: R)) : FRw w va X lo hi := M.rows _ (List.mem_cons_of_mem _ (List.mem_cons_of_mem _ (List.mem_cons_of_mem _ (List.mem_cons_self ..))))
theorem Mem.cell3 {w0 w : World} {L : List (Nat × List Value)} {R : List (Option Addr × List Value × Nat × Nat)} {p0 : Nat × List Value} {p1 : Nat × List Value} {p2 : Nat × List Value} {g : Nat} {v : Value} (M : Mem w0 w (p0 :: p1 :: p2 :: (g, [v]) :: L) R) : w.cell? ⟨g, 0, none⟩ = some v := M.cell (List.mem_cons_of_mem _ (List.mem_cons_of_mem _ (List.mem_cons_of_mem _ (List.mem_cons_self ..))))
theorem Mem.lt3 {w0 w : World} {L : List (Nat × List Value)} {R : List (Option Addr × List Value × Nat × Nat)} {p0 : Nat × List Value} {p1 : Nat × List Value} {p2 : Nat × List Value} {g : Nat} {X : List Value} (M : Mem w0 w (p0 :: p1 :: p2 :: (g, X) :: L) R) : g < w.heap.size := M.lt (List.mem_cons_of_mem _ (List.mem_cons_of_mem _ (List.mem_cons_of_mem _ (List.mem_cons_self ..))))
theorem Mem.at4 {w0 w : World} {L : List (Nat × List Value)} {R : List (Option Addr × List Value × Nat × Nat)} {r0 : Option Addr × List Value × Nat × Nat} {r1 : Option Addr × List Value × Nat × Nat} {r2 : Option Addr × List Value × Nat × Nat} {r3 : Option Addr × List Value × Nat × Nat} {va : Option Addr} {X : List Value} {lo hi : Nat} (M : Mem w0 w L (r0 :: r1 :: r2 :: r3 :: (va, X, lo, hi) :: R)) : FRw w va X lo hi := M.rows _ (List.mem_cons_of_mem _ (List.mem_cons_of_mem _ (List.mem_cons_of_mem _ (List.mem_cons_of_mem _ (List.mem_cons_self ..)))))
theorem Mem.cell4 {w0 w : World} {L : List (Nat × List Value)} {R : List (Option Addr × List Value × Nat × Nat)} {p0 : Nat × List Value} {p1 : Nat × List Value} {p2 : Nat × List Value} {p3 : Nat × List Value} {g : Nat} {v : Value} (M : Mem w0 w (p0 :: p1 :: p2 :: p3 :: (g, [v]) :: L) R) : w.cell? ⟨g, 0, none⟩ = some v := M.cell (List.mem_cons_of_mem _ (List.mem_cons_of_mem _ (List.mem_cons_of_mem _ (List.mem_cons_of_mem _ (List.mem_cons_self ..)))))
theorem Mem.lt4 {w0 w : World} {L : List (Nat × List Value)} {R : List (Option Addr × List Value × Nat × Nat)} {p0 : Nat × List Value} {p1 : Nat × List Value} {p2 : Nat × List Value} {p3 : Nat × List Value} {g : Nat} {X : List Value} (M : Mem w0 w (p0 :: p1 :: p2 :: p3 :: (g, X) :: L) R) : g < w.heap.size := M.lt (List.mem_cons_of_mem _ (List.mem_cons_of_mem _ (List.mem_cons_of_mem _ (List.mem_cons_of_mem _ (List.mem_cons_self ..)))))
theorem Mem.at5 {w0 w : World} {L : List (Nat × List Value)} {R : List (Option Addr × List Value × Nat × Nat)} {r0 : Option Addr × List Value × Nat × Nat} {r1 : Option Addr × List Value × Nat × Nat} {r2 : Option Addr × List Value × Nat × Nat} {r3 : Option Addr × List Value × Nat × Nat} {r4 : Option Addr × List Value × Nat × Nat} {va : Option Addr} {X : List Value} {lo hi : Nat} (M : Mem w0 w L (r0 :: r1 :: r2 :: r3 :: r4 :: (va, X, lo, hi) :: R)) : FRw w va X lo hi := M.rows _ (List.mem_cons_of_mem _ (List.mem_cons_of_mem _ (List.mem_cons_of_mem _ (List.mem_cons_of_mem _ (List.mem_cons_of_mem _ (List.mem_cons_self ..))))))
theorem Mem.cell5 {w0 w : World} {L : List (Nat × List Value)} {R : List (Option Addr × List Value × Nat × Nat)} {p0 : Nat × List Value} {p1 : Nat × List Value} {p2 : Nat × List Value} {p3 : Nat × List Value} {p4 : Nat × List Value} {g : Nat} {v : Value} (M : Mem w0 w (p0 :: p1 :: p2 :: p3 :: p4 :: (g, [v]) :: L) R) : w.cell? ⟨g, 0, none⟩ = some v := M.cell (List.mem_cons_of_mem _ (List.mem_cons_of_mem _ (List.mem_cons_of_mem _ (List.mem_cons_of_mem _ (List.mem_cons_of_mem _ (List.mem_cons_self ..))))))
theorem Mem.lt5 {w0 w : World} {L : List (Nat × List Value)} {R : List (Option Addr × List Value × Nat × Nat)} {p0 : Nat × List Value} {p1 : Nat × List Value} {p2 : Nat × List Value} {p3 : Nat × List Value} {p4 : Nat × List Value} {g : Nat} {X : List Value} (M : Mem w0 w (p0 :: p1 :: p2 :: p3 :: p4 :: (g, X) :: L) R) : g < w.heap.size := M.lt (List.mem_cons_of_mem _ (List.mem_cons_of_mem _ (List.mem_cons_of_mem _ (List.mem_cons_of_mem _ (List.mem_cons_of_mem _ (List.mem_cons_self ..))))))
end Go.Proofs.YtoglebfiobofoaaDoor
