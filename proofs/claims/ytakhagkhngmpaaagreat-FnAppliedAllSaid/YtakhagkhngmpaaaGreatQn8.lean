/- Texts of ours, laid one behind the other: CtA, LkO, LawTre, LawTrw, LkT, EdP, EdQ, GrpS, GrpI. -/
import Derived.Test.YtakhagkhngmpaaaGreatQnCpB
import Derived.Test.YtakhagkhngmpaaaGreatQn7
import Derived.Test.YtakhagkhngmpaaaGreatQn4
import Derived.Test.YtakhagkhngmpaaaGreatQn3
import Derived.Test.YtakhagkhngmpaaaGreatQn6
import Derived.Test.YtakhagkhngmpaaaGreatQn5
import Derived.Test.YtakhagkhngmpaaaGreatQn1
import Derived.Test.YtakhagkhngmpaaaGreatQn2
import Derived.Sort.OwnSorted
import Derived.Sort.KeysCollected
import Derived.Laws.IdiomRangeMap
import Derived.Test.YtakhagkhngmpaaaGreatQnShf
import Derived.Sort.OwnSortedInts
/- CtA: . -/
namespace Go.Proofs.YtakhagkhngmpaaaGreat
set_option maxRecDepth 100000
open Go.RowKit
attribute [local go_sem ↓] Go.wp_at_zero Go.wp_at_succ
theorem infoInodeG9 : (Tryz.prog.info? 47).map (fun i => (i.zero, i.size, i.bytes)) = some (some (.agg #[.int .i64 0, .int .i64 0, .string ⟨#[]⟩, .bool false, .int .i64 0, .int .i64 0, .int .i64 0, .slice none 0 0, .int .i64 0]), 9, 96) := by kernel_rfl
theorem eqNonePiece (n c : Nat) (W : World) : Sem.run Tryz.prog (binOp BinOp.eql 45 (.slice none n c) (.slice none 0 0)) W = .ok (.bool true) W := by kernel_rfl
theorem eqSomePiece (q : Addr) (n c : Nat) (W : World) : Sem.run Tryz.prog (binOp BinOp.eql 45 (.slice (some q) n c) (.slice none 0 0)) W = .ok (.bool false) W := by kernel_rfl
theorem eqNoneInode (n c : Nat) (W : World) : Sem.run Tryz.prog (binOp BinOp.eql 24 (.slice none n c) (.slice none 0 0)) W = .ok (.bool true) W := by kernel_rfl
theorem eqSomeInode (q : Addr) (n c : Nat) (W : World) : Sem.run Tryz.prog (binOp BinOp.eql 24 (.slice (some q) n c) (.slice none 0 0)) W = .ok (.bool false) W := by kernel_rfl
attribute [local go_sem] eqNonePiece eqSomePiece eqNoneInode eqSomeInode
def clonePPost (L : List Value) (n : Nat) (w : World) (e : Ending) (w' : World) : Prop := ∃ (a : Option Addr) (c : Nat), e = .returned (.slice a n c) ∧ w'.ownsRow w.heap.size 99 2 (.slice a n c) n L ∧ Below w.heap.size w w'
set_option maxHeartbeats 1000000 in
theorem cloneP_any {w : World} {a : Option Addr} {n cap : Nat} {ps : List PM} (h : CRow w a (pcs ps)) (hn : n = ps.length) (hl : n ≤ 1048576) : Calls Tryz.prog 110 #[.slice a n cap] w fun e w' => clonePPost (pcs ps) n w e w' := by
 have hv : ∀ u ∈ pcs ps, u.oneCell' = true := by
  intro u hu
  obtain ⟨y, _, hy⟩ := List.mem_flatMap.1 hu
  simp [pcells] at hy; rcases hy with rfl | rfl <;> rfl
 have hL : (pcs ps).length = n * 2 := by rw [pcs_len, hn]
 have HV := Shut.mk hv
 generalize pcs ps = L at h HV hL ⊢
 clear hn hv
 obtain ⟨j0, hjn, hy0, hy1, hy2⟩ := info_parts infoPieceG
 have HL := Shut.mk hL
 clear hL
 rcases Nat.eq_zero_or_pos n with h0 | hp
 ·have hL0 : L = [] := List.eq_nil_of_length_eq_zero (by rw [HL.out, h0, Nat.zero_mul])
  subst h0
  subst hL0
  clear h
  cases a with
  | none =>
   go_enter Tryz.func110, Tryz.ntmps110
   go_wp2_with fail
   go_ret
   exact ⟨none, 0, rfl, World.ownsRow_nil w w.heap.size 99 2, Below.refl _ _⟩
  | some q =>
   have hap : ∀ (W : World) (g : Addr), ∀ ty, (Builtin.append_ #[45, 45] ty #[.slice (some g) 0 0, .slice (some q) 0 cap]).run Tryz.prog W = .ok (.slice (some g) 0 0) W := fun W g ty =>
    run_append_nothing W _ _ _ _ j0 Tryz.underlying45 hjn (some g) 0 0 (Nat.le_refl _) _ (Src.ofSlice W Tryz.underlying45 q 0 cap [] (by simp) (by simp) (by simp))
   have HAP := Shut.mk hap
   clear hap
   go_enter Tryz.func110, Tryz.ntmps110
   go_wp2_with (at_builtin; refine wpList_append_nothing _ rfl _ _ 45 rfl _ _ rfl rfl (HAP.out _ _) ?_)
   go_ret
   exact ⟨some ⟨w.heap.size, 0, none⟩, 0, rfl, World.ownsRow_made (e := 99) (size := 2) (base := w.heap.size) w #[] 0 (Nat.le_refl _) (by decide) rfl, (Below.refl _ _).alloc (Nat.le_refl _) _⟩
 ·have hLp : 0 < L.length := by rw [HL.out]; omega
  obtain ⟨pb, poff, rfl, lpb, hpc⟩ := h hLp
  have HPC := Shut.mk hpc
  clear hpc h hLp
  go_enter Tryz.func110, Tryz.ntmps110
  have hmade := World.ownsRow_made (e := 99) (size := 2) (base := w.heap.size) w #[] 0 (Nat.le_refl _) (by decide) rfl
  go_wp2_with (at_builtin; refine wpList_append_own _ rfl _ _ 45 rfl w.heap.size 99 j0 _ 2 16 Tryz.underlying45 hjn hy0 hy1 hy2 rfl (by decide) _ 0 [] rfl hmade ⟨pb, poff, none⟩ n cap L rfl ?c0 ?c1 ?c2 ?c3 ?c4 ?c5 ?_)
  case c0 => first | exact HL.out | (rw [HL.out]; omega)
  case c1 =>
   intro i u hu
   have e : (⟨pb, poff, none⟩ : Addr).add i = ⟨pb, poff + i, none⟩ := by cases i <;> simp [Addr.add]
   rw [e, ← HPC.out i u hu]
   exact ((Below.refl w.heap.size w).alloc (Nat.le_refl _) _).cell (p := ⟨pb, poff + i, none⟩) lpb
  case c2 => exact HV.out
  case c3 => unfold maxLen; omega
  case c4 => omega
  case c5 => simp
  intro v' w10 ho10 hgrow _
  obtain ⟨a9, c9, rfl⟩ := own_slice ho10
  have HO := Shut.mk ho10
  have HB : Shut (Below w.heap.size w w10) := ⟨((Below.refl w.heap.size w).alloc (Nat.le_refl _) _).grown hgrow (by simp) (fun j hj => by cases hj; exact Nat.le_refl _)⟩
  clear ho10 hgrow hmade
  go_wp2_with fail
  go_ret
  exact ⟨a9, c9, rfl, HO.out, HB.out⟩
def cloneNPost (L : List Value) (n : Nat) (w : World) (e : Ending) (w' : World) : Prop := ∃ (a : Option Addr) (c : Nat), e = .returned (.slice a n c) ∧ w'.ownsRow w.heap.size 47 9 (.slice a n c) n L ∧ Below w.heap.size w w'
set_option maxHeartbeats 1000000 in
theorem cloneN_any {w : World} {a : Option Addr} {n cap : Nat} {rs : List NR} (h : CRow w a (ncs rs)) (hn : n = rs.length) (hl : n ≤ 1048576) : Calls Tryz.prog 108 #[.slice a n cap] w fun e w' => cloneNPost (ncs rs) n w e w' := by
 have hv : ∀ u ∈ ncs rs, u.oneCell' = true := by
  intro u hu
  obtain ⟨y, _, hy⟩ := List.mem_flatMap.1 hu
  simp [ncells] at hy; rcases hy with rfl | rfl | rfl | rfl | rfl | rfl | rfl | rfl | rfl <;> rfl
 have hL : (ncs rs).length = n * 9 := by rw [ncs_len, hn]
 have HV := Shut.mk hv
 generalize ncs rs = L at h HV hL ⊢
 clear hn hv
 obtain ⟨j0, hjn, hy0, hy1, hy2⟩ := info_parts infoInodeG9
 have HL := Shut.mk hL
 clear hL
 rcases Nat.eq_zero_or_pos n with h0 | hp
 ·have hL0 : L = [] := List.eq_nil_of_length_eq_zero (by rw [HL.out, h0, Nat.zero_mul])
  subst h0
  subst hL0
  clear h
  cases a with
  | none =>
   go_enter Tryz.func108, Tryz.ntmps108
   go_wp2_with fail
   go_ret
   exact ⟨none, 0, rfl, World.ownsRow_nil w w.heap.size 47 9, Below.refl _ _⟩
  | some q =>
   have hap : ∀ (W : World) (g : Addr), ∀ ty, (Builtin.append_ #[24, 24] ty #[.slice (some g) 0 0, .slice (some q) 0 cap]).run Tryz.prog W = .ok (.slice (some g) 0 0) W := fun W g ty =>
    run_append_nothing W _ _ _ _ j0 Tryz.underlying24 hjn (some g) 0 0 (Nat.le_refl _) _ (Src.ofSlice W Tryz.underlying24 q 0 cap [] (by simp) (by simp) (by simp))
   have HAP := Shut.mk hap
   clear hap
   go_enter Tryz.func108, Tryz.ntmps108
   go_wp2_with (at_builtin; refine wpList_append_nothing _ rfl _ _ 24 rfl _ _ rfl rfl (HAP.out _ _) ?_)
   go_ret
   exact ⟨some ⟨w.heap.size, 0, none⟩, 0, rfl, World.ownsRow_made (e := 47) (size := 9) (base := w.heap.size) w #[] 0 (Nat.le_refl _) (by decide) rfl, (Below.refl _ _).alloc (Nat.le_refl _) _⟩
 ·have hLp : 0 < L.length := by rw [HL.out]; omega
  obtain ⟨pb, poff, rfl, lpb, hpc⟩ := h hLp
  have HPC := Shut.mk hpc
  clear hpc h hLp
  go_enter Tryz.func108, Tryz.ntmps108
  have hmade := World.ownsRow_made (e := 47) (size := 9) (base := w.heap.size) w #[] 0 (Nat.le_refl _) (by decide) rfl
  go_wp2_with (at_builtin; refine wpList_append_own _ rfl _ _ 24 rfl w.heap.size 47 j0 _ 9 96 Tryz.underlying24 hjn hy0 hy1 hy2 rfl (by decide) _ 0 [] rfl hmade ⟨pb, poff, none⟩ n cap L rfl ?c0 ?c1 ?c2 ?c3 ?c4 ?c5 ?_)
  case c0 => first | exact HL.out | (rw [HL.out]; omega)
  case c1 =>
   intro i u hu
   have e : (⟨pb, poff, none⟩ : Addr).add i = ⟨pb, poff + i, none⟩ := by cases i <;> simp [Addr.add]
   rw [e, ← HPC.out i u hu]
   exact ((Below.refl w.heap.size w).alloc (Nat.le_refl _) _).cell (p := ⟨pb, poff + i, none⟩) lpb
  case c2 => exact HV.out
  case c3 => unfold maxLen; omega
  case c4 => omega
  case c5 => simp
  intro v' w10 ho10 hgrow _
  obtain ⟨a9, c9, rfl⟩ := own_slice ho10
  have HO := Shut.mk ho10
  have HB : Shut (Below w.heap.size w w10) := ⟨((Below.refl w.heap.size w).alloc (Nat.le_refl _) _).grown hgrow (by simp) (fun j hj => by cases hj; exact Nat.le_refl _)⟩
  clear ho10 hgrow hmade
  go_wp2_with fail
  go_ret
  exact ⟨a9, c9, rfl, HO.out, HB.out⟩
end Go.Proofs.YtakhagkhngmpaaaGreat
/- LkO: . -/
namespace Go.Proofs.YtakhagkhngmpaaaGreat
set_option maxRecDepth 100000
open Go.RowKit Go.Maps Go.Sort BigFrame
attribute [local go_sem ↓] Go.wp_at_zero Go.wp_at_succ
end Go.Proofs.YtakhagkhngmpaaaGreat
/- LawTre: . -/
namespace Go.Proofs.YtakhagkhngmpaaaGreat
set_option maxRecDepth 100000
open Go.RowKit
attribute [local go_sem ↓] Go.wp_at_zero Go.wp_at_succ
attribute [local irreducible] nodeOk treeOk atI findX pathX schemaAtX usedX roomX
structure BY (w W : World) (a : Option Addr) (n cap : Nat) (nx : Int) (g : Nat) (c : Option Addr) (m cc : Nat) (T : TM) : Prop where
 bx : BX w W a n cap nx
 kp : WCells W g [.slice c m cc, .int .i64 nx]
 cp : TSee W (.agg #[.slice c m cc, .int .i64 nx]) T w.heap.size g
theorem BY.below {w W W' : World} {a c : Option Addr} {n cap g m cc : Nat} {nx : Int} {T : TM} (h : BY w W a n cap nx g c m cc T) (hb : Below W.heap.size W W') : BY w W' a n cap nx g c m cc T := ⟨h.bx.below hb, h.kp.grow hb, h.cp.below hb⟩
end Go.Proofs.YtakhagkhngmpaaaGreat
/- LawTrw: . -/
namespace Go.Proofs.YtakhagkhngmpaaaGreat
set_option maxRecDepth 100000
open Go.RowKit
attribute [local go_sem ↓] Go.wp_at_zero Go.wp_at_succ
attribute [local irreducible] nodeOk treeOk atI belowX
end Go.Proofs.YtakhagkhngmpaaaGreat
/- LkT: . -/
namespace Go.Proofs.YtakhagkhngmpaaaGreat
set_option maxRecDepth 100000
open Go.RowKit Go.Maps Go.Sort BigFrame
attribute [local go_sem ↓] Go.wp_at_zero Go.wp_at_succ
theorem implClone (s : ByteArray) (w : World) (hs : s.size ≤ 281474976710656) : Calls Tryz.prog 109 #[.string s] w fun e w' => e = .returned (.string s) ∧ Below w.heap.size w w' := by
 have HC := Shut.mk (fun W => Tryz.stringslite_Clone s W hs)
 go_enter Tryz.func109, Tryz.ntmps109
 go_wp2_with fail
 refine (HC.out _).mono ?_
 rintro e w1 ⟨rfl, hb⟩
 go_wp2_with fail
 go_ret
 exact ⟨rfl, hb⟩
end Go.Proofs.YtakhagkhngmpaaaGreat
/- EdP: . -/
namespace Go.Proofs.YtakhagkhngmpaaaGreat
set_option maxRecDepth 100000
open Go.RowKit BigFrame
attribute [local go_sem ↓] Go.wp_at_zero Go.wp_at_succ
theorem implHasName (p : ByteArray) (w : World) (hs : p.size ≤ 1048576) : Calls Tryz.prog 126 #[.string p] w fun e w' => e = .returned (.bool (named p)) ∧ Below w.heap.size w w' := by
 have HC := Shut.mk (fun W => implParentPath p W hs)
 unfold ParPost at HC
 have e0 : named p = (parentB p).2.2 := rfl
 rw [e0]
 generalize (parentB p).2.2 = a at *
 generalize (parentB p).2.1 = b at *
 generalize (parentB p).1 = c at *
 clear hs e0
 go_enter Tryz.func126, Tryz.ntmps126
 go_wp2_with fail
 refine (HC.out _).mono ?_
 rintro e w1 ⟨rfl, hb⟩
 go_wp2_with fail
 go_ret
 exact ⟨rfl, hb⟩
def pathQ (e : EM) : Bool := if e.kind = 10 then e.path.toList == [47] else if e.kind = 5 ∨ e.kind = 6 then (e.path.toList == [47]) || named e.path else named e.path
def destQ (e : EM) : Bool := if e.kind = 3 then named e.dest else e.dest.toList == []
def numQ (e : EM) : Bool := if e.kind = 5 then inI e.num 1 3 else if e.kind = 6 then inI e.num 0 1000 else if e.kind = 7 then inI e.num 1 200 else e.num == 0
def whoQ (e : EM) : Bool := if e.kind = 2 ∨ e.kind = 9 then inI e.who 1 9 else e.who == 0
theorem not_named_nil {p : ByteArray} (h : (p.toList == []) = true) : named p = false := by
 rw [Go.ByteArray.toList_eq, beq_iff_eq] at h
 have hp : p = ⟨#[]⟩ := ByteArray.ext (Array.toList_inj.1 h)
 subst hp
 rfl
theorem edit_is (e : EM) : editOk e = (inI e.kind 1 10 && pathQ e && destQ e && numQ e && whoQ e) := by
 unfold editOk pathBad numsOk pathQ destQ numQ whoQ
 have hn := @not_named_nil e.dest
 generalize named e.dest = nd at *
 generalize named e.path = np at *
 generalize (e.path.toList == [47]) = rt at *
 have hne : (e.dest.toList != []) = !(e.dest.toList == []) := rfl
 rw [hne]
 generalize (e.dest.toList == []) = te at *
 generalize inI e.num 1 3 = a1 at *
 generalize inI e.num 0 1000 = a2 at *
 generalize inI e.num 1 200 = a3 at *
 generalize inI e.who 1 9 = a4 at *
 generalize (e.num == 0) = a5 at *
 generalize (e.who == 0) = a6 at *
 cases hk : inI e.kind 1 10 with
 | false => simp
 | true =>
  have hk' := inI_iff.1 hk
  have hc : e.kind = 1 ∨ e.kind = 2 ∨ e.kind = 3 ∨ e.kind = 4 ∨ e.kind = 5 ∨ e.kind = 6 ∨ e.kind = 7 ∨ e.kind = 8 ∨ e.kind = 9 ∨ e.kind = 10 := by omega
  rcases hc with h | h | h | h | h | h | h | h | h | h <;> rw [h] <;> simp <;> revert hn <;> cases nd <;> cases te <;> simp <;> cases np <;> cases rt <;> simp [Bool.and_comm]
set_option maxHeartbeats 1000000 in
theorem implPathQ (e : EM) (w : World) (hf : EFit e) : Calls Tryz.prog 87 #[ev e] w fun r w' => r = .returned (.bool (pathQ e)) ∧ Below w.heap.size w w' := by
 have HN := Shut.mk (fun W => implHasName e.path W hf.1)
 have HR : Shut (pathQ e = if e.kind = 10 then e.path.toList == [47] else if e.kind = 5 ∨ e.kind = 6 then (e.path.toList == [47]) || named e.path else named e.path) := ⟨rfl⟩
 generalize pathQ e = R at *
 generalize named e.path = np at *
 obtain ⟨kind, path, dest, num, who⟩ := e
 dsimp only at *
 clear hf
 go_enter Tryz.func87, Tryz.ntmps87
 go_wp2_with (go_at_call 126; refine (HN.out _).mono ?_; rintro r w1 ⟨rfl, hb1⟩)
 all_goals
  go_ret
  refine ⟨by rw [HR.out]; (try simp only [beq_iff_eq, beq_eq_false_iff_ne, ne_eq] at *); simp [*], ?_⟩
  first
   | exact (Below.refl _ _).alloc (Nat.le_refl _) _
   | exact ((Below.refl _ _).alloc (Nat.le_refl _) _).trans (hb1.mono (by simp))
set_option maxHeartbeats 1000000 in
theorem implDestQ (e : EM) (w : World) (hf : EFit e) : Calls Tryz.prog 88 #[ev e] w fun r w' => r = .returned (.bool (destQ e)) ∧ Below w.heap.size w w' := by
 have HN := Shut.mk (fun W => implHasName e.dest W hf.2)
 have HR : Shut (destQ e = if e.kind = 3 then named e.dest else e.dest.toList == []) := ⟨rfl⟩
 generalize destQ e = R at *
 generalize named e.dest = np at *
 obtain ⟨kind, path, dest, num, who⟩ := e
 dsimp only at *
 clear hf
 go_enter Tryz.func88, Tryz.ntmps88
 go_wp2_with (go_at_call 126; refine (HN.out _).mono ?_; rintro r w1 ⟨rfl, hb1⟩)
 all_goals
  go_ret
  refine ⟨by rw [HR.out]; (try simp only [beq_iff_eq, beq_eq_false_iff_ne, ne_eq] at *); simp [*], ?_⟩
  first
   | exact (Below.refl _ _).alloc (Nat.le_refl _) _
   | exact ((Below.refl _ _).alloc (Nat.le_refl _) _).trans (hb1.mono (by simp))
set_option maxHeartbeats 1000000 in
theorem implNumQ (e : EM) (w : World) : Calls Tryz.prog 89 #[ev e] w fun r w' => r = .returned (.bool (numQ e)) ∧ Below w.heap.size w w' := by
 have HR : Shut (numQ e = if e.kind = 5 then inI e.num 1 3 else if e.kind = 6 then (decide (0 ≤ e.num) && decide (e.num ≤ 1000)) else if e.kind = 7 then (decide (1 ≤ e.num) && decide (e.num ≤ 200)) else e.num == 0) := ⟨rfl⟩
 generalize numQ e = R at *
 obtain ⟨kind, path, dest, num, who⟩ := e
 dsimp only at *
 go_enter Tryz.func89, Tryz.ntmps89
 go_wp2_with (go_at_call 115; refine (implSchemaOk _ _).mono ?_; rintro r w1 ⟨rfl, rfl⟩)
 all_goals
  go_ret
  refine ⟨by rw [HR.out]; (try simp only [beq_iff_eq, beq_eq_false_iff_ne, ne_eq] at *); first | (simp [*]; done) | (simp [*]; omega), ?_⟩
  exact (Below.refl _ _).alloc (Nat.le_refl _) _
set_option maxHeartbeats 1000000 in
theorem implWhoQ (e : EM) (w : World) : Calls Tryz.prog 90 #[ev e] w fun r w' => r = .returned (.bool (whoQ e)) ∧ Below w.heap.size w w' := by
 have HR : Shut (whoQ e = if e.kind = 2 ∨ e.kind = 9 then (decide (1 ≤ e.who) && decide (e.who ≤ 9)) else e.who == 0) := ⟨rfl⟩
 generalize whoQ e = R at *
 obtain ⟨kind, path, dest, num, who⟩ := e
 dsimp only at *
 go_enter Tryz.func90, Tryz.ntmps90
 go_wp2_with fail
 all_goals
  go_ret
  refine ⟨by rw [HR.out]; (try simp only [beq_iff_eq, beq_eq_false_iff_ne, ne_eq] at *); first | (simp [*]; done) | (simp [*]; omega), ?_⟩
  exact (Below.refl _ _).alloc (Nat.le_refl _) _
theorem ec_new (w : World) (e : EM) (T : TypeId) : EC w w.heap.size e (w.alloc (.cells #[.int .i64 e.kind, .string e.path, .string e.dest, .int .i64 e.num, .int .i64 e.who] T)) := by
 have h := wcells_new w #[.int .i64 e.kind, .string e.path, .string e.dest, .int .i64 e.num, .int .i64 e.who] T
 exact ⟨(h.2 0 _ rfl).1, (h.2 1 _ rfl).1, (h.2 2 _ rfl).1, (h.2 3 _ rfl).1, (h.2 4 _ rfl).1, ⟨(Below.refl _ _).alloc (Nat.le_refl _) _⟩⟩
set_option maxHeartbeats 1000000 in
theorem implEditOk (e : EM) (w : World) (hf : EFit e) : Calls Tryz.prog 35 #[ev e] w fun r w' => r = .returned (.bool (editOk e)) ∧ Below w.heap.size w w' := by
 have H1 := Shut.mk (fun W => implPathQ e W hf)
 have H2 := Shut.mk (fun W => implDestQ e W hf)
 have H3 := Shut.mk (fun W => implNumQ e W)
 have H4 := Shut.mk (fun W => implWhoQ e W)
 have HR := Shut.mk (edit_is e)
 have HN := Shut.mk (ec_new w e 28)
 generalize editOk e = R at *
 generalize pathQ e = q1 at *
 generalize destQ e = q2 at *
 generalize numQ e = q3 at *
 generalize whoQ e = q4 at *
 unfold inI at HR
 obtain ⟨kind, path, dest, num, who⟩ := e
 dsimp only at *
 clear hf
 go_enter Tryz.func35, Tryz.ntmps35
 go_wp2_with (first
  | (go_at_call 87; refine (H1.out _).mono ?_; rintro r w1 ⟨rfl, hb1⟩; obtain ⟨c0, c1, c2, c3, c4, hB⟩ := HN.out.below hb1; clear hb1; dsimp only at c0 c1 c2 c3 c4)
  | (go_at_call 88; refine (H2.out _).mono ?_; rintro r w1 ⟨rfl, hb1⟩; obtain ⟨c0, c1, c2, c3, c4, hB⟩ := EC.below (e := ⟨kind, path, dest, num, who⟩) ⟨c0, c1, c2, c3, c4, hB⟩ hb1; clear hb1; dsimp only at c0 c1 c2 c3 c4)
  | (go_at_call 89; refine (H3.out _).mono ?_; rintro r w1 ⟨rfl, hb1⟩; obtain ⟨c0, c1, c2, c3, c4, hB⟩ := EC.below (e := ⟨kind, path, dest, num, who⟩) ⟨c0, c1, c2, c3, c4, hB⟩ hb1; clear hb1; dsimp only at c0 c1 c2 c3 c4)
  | (go_at_call 90; refine (H4.out _).mono ?_; rintro r w1 ⟨rfl, hb1⟩; obtain ⟨c0, c1, c2, c3, c4, hB⟩ := EC.below (e := ⟨kind, path, dest, num, who⟩) ⟨c0, c1, c2, c3, c4, hB⟩ hb1; clear hb1; dsimp only at c0 c1 c2 c3 c4))
 all_goals
  go_ret
  refine ⟨by rw [HR.out]; first | (simp [*]; done) | (simp [*]; omega), ?_⟩
  first
   | exact hB.out
   | exact (Below.refl _ _).alloc (Nat.le_refl _) _
end Go.Proofs.YtakhagkhngmpaaaGreat
/- GrpS: . -/
namespace Go.Proofs.YtakhagkhngmpaaaGreat
set_option maxRecDepth 100000
open Go.RowKit
attribute [local go_sem ↓] Go.wp_at_zero Go.wp_at_succ
def IRow (V W : World) (v : Value) (m : Nat) (L : List Int) : Prop := m = L.length ∧ Below V.heap.size V W ∧ W.ownsRow V.heap.size 3 1 v m (ics L)
theorem IRow.below {V W W' : World} {v : Value} {m : Nat} {L : List Int} (h : IRow V W v m L) (hb : Below W.heap.size W W') : IRow V W' v m L := ⟨h.1, h.2.1.trans (hb.mono h.2.1.size), h.2.2.kept (row := none) ⟨hb.os, hb.tape, hb.output, hb.size, fun k hk _ => hb.block k hk⟩ (Classical.em _)⟩
theorem IRow.snoc {V W W' : World} {v v' : Value} {m : Nat} {L : List Int} {x : Int} {o : Obj} (h : IRow V W v m L) (ho : W'.ownsRow V.heap.size 3 1 v' (m + 1) (ics L ++ [.int .i64 x])) (hg : (W.alloc o).grownBy W' v.ownBlock) : IRow V W' v' (m + 1) (L ++ [x]) := by
 refine ⟨by rw [List.length_append, List.length_singleton, h.1], (h.2.1.alloc h.2.1.size _).grown hg (by have := h.2.1.size; simp; omega) (fun j hj => (h.2.2.lt j hj).1), ?_⟩
 rw [← ics_snoc9]
 exact ho
theorem IRow.fin {V W : World} {v : Value} {m : Nat} {L : List Int} (h : IRow V W v m L) : IPost L V (.returned v) W := ⟨v, rfl, own_ians h.1.symm h.2.2, h.2.1⟩
theorem IAns.wide {w : World} {v : Value} {xs : List Int} {lo hi hi' : Nat} (h : IAns w v xs lo hi) (hh : hi ≤ hi') : IAns w v xs lo hi' := by
 obtain ⟨a, c, e, q, r⟩ := h
 exact ⟨a, c, e, q, r.imp (fun e => e) (fun ⟨g, e1, e2, e3, e4⟩ => ⟨g, e1, e2, Nat.lt_of_lt_of_le e3 hh, e4⟩)⟩
theorem at_plc {T : TM} {i : Int} {k : Nat} (h : atI T.nodes i = (k : Int)) : plc T i = k := by unfold plc; rw [h]; rfl
end Go.Proofs.YtakhagkhngmpaaaGreat
/- GrpI: . -/
namespace Go.Proofs.YtakhagkhngmpaaaGreat
set_option maxRecDepth 100000
open Go.RowKit Go.Maps Go.Sort BigFrame
attribute [local go_sem ↓] Go.wp_at_zero Go.wp_at_succ
theorem sortI_any {w : World} {B : Nat} {v : Value} {zs : List Int} (h : w.ownsRow B 3 1 v zs.length (ics zs)) (hl : zs.length ≤ 1048576) :
  Calls Tryz.prog 79 #[v] w fun e w' => e = .returned (.tuple #[]) ∧ w'.ownsRow B 3 1 v zs.length (ics (zs.mergeSort fun x y => decide (x ≤ y))) ∧ Below B w w' := by
 rcases h.2 with ⟨rfl, h0⟩ | ⟨g, cap, cur, rfl, hbase, hb, h1, h2, h3, h4⟩
 ·have hL : zs = [] := List.eq_nil_of_length_eq_zero h0
  subst hL
  refine (Tryz.slices_Sort_int_none none 0 w).mono ?_
  rintro e w' ⟨rfl, rfl⟩
  exact ⟨rfl, by simpa using h, Below.refl _ _⟩
 ·have hH : Holds (Value.int .i64) w g 0 zs.toArray := holds_of_blockI hb (by simpa [ics] using h4)
  have hgl : g < w.heap.size := (Array.getElem?_eq_some_iff.1 hb).1
  refine (Tryz.slices_Sort_int g 0 cap zs w hH hgl (by omega)).mono ?_
  rintro e w' ⟨rfl, q, os, rfl⟩
  have hrow := ownsRow_sortedI (n := q) (os := os) (ts := zs.mergeSort fun x y => decide (x ≤ y)) (by simp) hbase hb h1 h2 h3
  have hgb := grownBy_sortedI (w := w) (g := g) (n := q) (os := os) (zs.mergeSort fun x y => decide (x ≤ y)).toArray
  exact ⟨rfl, hrow, (Below.refl _ _).grown hgb (by omega) (fun j hj => by cases hj; exact hbase)⟩
theorem compact_len (zs : List Int) : (Lib.compact zs).length ≤ zs.length := by
 unfold Lib.compact Lib.compactUpTo
 rw [List.length_map]
 exact Nat.le_trans (List.length_filter_le _ _) (by simp)
theorem compactI_any {w : World} {B : Nat} {v : Value} {zs : List Int} (h : w.ownsRow B 3 1 v zs.length (ics zs)) (hl : zs.length ≤ 1048576) :
  Calls Tryz.prog 80 #[v] w fun e w' => ∃ v', e = .returned v' ∧ IAns w' v' (Lib.compact zs) B w'.heap.size ∧ Below B w w' := by
 rcases h.2 with ⟨rfl, h0⟩ | ⟨g, cap, cur, rfl, hbase, hb, h1, h2, h3, h4⟩
 ·have hL : zs = [] := List.eq_nil_of_length_eq_zero h0
  subst hL
  refine (Tryz.slices_Compact_int_empty none 0 w).mono ?_
  rintro e w' ⟨rfl, rfl⟩
  exact ⟨_, rfl, IAns.empty _ _ _ _ _, Below.refl _ _⟩
 ·have hH : Holds (Value.int .i64) w g 0 zs.toArray := holds_of_blockI hb (by simpa [ics] using h4)
  have hgl : g < w.heap.size := (Array.getElem?_eq_some_iff.1 hb).1
  refine (Tryz.slices_Compact_int g 0 cap zs w hH (by omega) h1).mono ?_
  rintro e w' ⟨rfl, q, rfl⟩
  obtain ⟨ts, hts⟩ : ∃ ts, ts = Lib.compact zs ++ List.replicate (zs.length - (Lib.compact zs).length) (0 : Int) := ⟨_, rfl⟩
  have hcl := compact_len zs
  have htl : ts.length = zs.length := by rw [hts, List.length_append, List.length_replicate]; omega
  rw [← hts]
  have hrow := ownsRow_sortedI (n := q) (os := #[]) (ts := ts) htl hbase hb h1 h2 h3
  have hgb := grownBy_sortedI (w := w) (g := g) (n := q) (os := #[]) ts.toArray
  rw [grow_empty] at hrow hgb
  have hwc : WCells _ g (ics ts) := own_wcells hrow
  refine ⟨_, rfl, ⟨some ⟨g, 0, none⟩, cap, rfl, by omega, .inr ⟨g, rfl, hbase, hwc.1, hwc.1, fun i u hu => hwc.2 i u ?_⟩⟩, (Below.refl _ _).grown hgb (by omega) (fun j hj => by cases hj; exact hbase)⟩
  rw [hts]
  have hi : i < (ics (Lib.compact zs)).length := (List.getElem?_eq_some_iff.1 hu).1
  have e : ics (Lib.compact zs ++ List.replicate (zs.length - (Lib.compact zs).length) 0) = ics (Lib.compact zs) ++ ics (List.replicate (zs.length - (Lib.compact zs).length) 0) := by simp [ics]
  rw [e, List.getElem?_append_left hi]
  exact hu
theorem allG_take (ns : List NM) (X : List Int) (k : Nat) (h : k < ns.length) : allG (ns.take (k + 1)) X = allG (ns.take k) X ++ if X.contains ns[k].id = true then ns[k].pieces.map PM.group else [] := by
 unfold allG
 rw [List.take_succ_eq_append_getElem h, List.filter_append, List.flatMap_append]
 congr 1
 by_cases q : X.contains ns[k].id = true
 ·rw [List.filter_cons, if_pos q, if_pos q]; simp
 ·rw [List.filter_cons, if_neg q, if_neg q]; simp
theorem pm_take (ps : List PM) (k : Nat) (h : k < ps.length) : (ps.take (k + 1)).map PM.group = (ps.take k).map PM.group ++ [ps[k].group] := by
 rw [List.take_succ_eq_append_getElem h, List.map_append]
 rfl
theorem tree_plc {T : TM} (h : treeOk T = true) : ∀ n ∈ T.nodes, ndAt T (plc T n.id) = n := fun n hn => by
 have := tree_tall h
 obtain ⟨i, hi, rfl⟩ := List.getElem_of_mem hn
 have hf := this.1.fid hi
 have : atI T.nodes T.nodes[i].id = (i : Int) := by rw [at_fid, hf]
 rw [at_plc this, nd_mem hi]
theorem grp_end {T : TM} (id : Int) : Lib.compact ((allG T.nodes (belowX T id)).mergeSort fun x y => decide (x ≤ y)) = grpX T id := by
 by_cases h : treeOk T = true
 ·exact grp_prog (tree_plc h) id
 ·have e : belowX T id = [] := by unfold belowX; rw [if_neg (fun q => h q.1)]
  have e2 : allG T.nodes [] = [] := by unfold allG; rw [List.filter_eq_nil_iff.2 (by simp)]; rfl
  unfold grpX
  rw [e, e2]
  simp [grpL, Lib.compact, Lib.compactUpTo]
theorem allG_len {T : TM} (id : Int) : ∀ k, (allG (T.nodes.take k) (belowX T id)).length ≤ 40 * k := by
 intro k
 induction k with
 | zero => simp [allG]
 | succ k ih =>
  by_cases hk : k < T.nodes.length
  ·rw [allG_take _ _ _ hk, List.length_append]
   split
   ·rename_i q
    have hm : T.nodes[k].id ∈ belowX T id := by simpa using q
    have := (node_parts (belowX_mem hm).1 k hk).2.1
    rw [List.length_map]
    omega
   ·simp; omega
  ·rw [List.take_of_length_le (by omega)] at ih ⊢
   omega
attribute [local irreducible] treeOk belowX allG grpX
set_option maxHeartbeats 4000000 in
theorem implGroupsOf (w : World) (v : Value) (T : TM) (lo hi : Nat) (id : Int) (h : TSee w v T lo hi) (hf : NFit T) (hI : NInt T.nodes) : Calls Tryz.prog 24 #[v, .int .i64 id] w fun e w' => IPost (grpX T id) w e w' := by
 obtain ⟨t0, ht0, hty0, hty1, hty2⟩ := info_parts infoIntG
 have h' := h
 obtain ⟨a, cap, rs, rfl, hr, hm⟩ := h
 obtain ⟨n, hn⟩ : ∃ n, n = rs.length := ⟨_, rfl⟩
 obtain ⟨nx, hnx⟩ : ∃ nx, nx = T.next := ⟨_, rfl⟩
 rw [← hn, ← hnx] at h' ⊢
 have HBO := Shut.mk (fun W (hW : Below w.heap.size w W) => implBelowOf W _ T lo hi id (h'.below hW) hf hI)
 have HGE := Shut.mk (grp_end (T := T) id)
 have HGL := Shut.mk (allG_len (T := T) id)
 have hbl := belowX_len T id
 have hnl : n ≤ 1048576 := by unfold NFit at hf; rw [← hr, nds_len] at hf; omega
 have HPC := Shut.mk (fit_name hf)
 have HP40 : Shut (∀ j (hj : j < T.nodes.length), (belowX T id).contains T.nodes[j].id = true → T.nodes[j].pieces.length ≤ 40 ∧ T.nodes.length ≤ 14) := ⟨fun j hj q => by
  have hm : T.nodes[j].id ∈ belowX T id := by simpa using q
  exact ⟨(node_parts (belowX_mem hm).1 j hj).2.1, (tree_len (belowX_mem hm).1).2.1⟩⟩
 obtain ⟨R, hR⟩ : ∃ R, R = grpX T id := ⟨_, rfl⟩
 rw [← hR] at HGE ⊢
 obtain ⟨B, hB⟩ : ∃ B, B = belowX T id := ⟨_, rfl⟩
 rw [← hB] at HBO HGE HGL HP40 hbl
 unfold IPost at HBO
 have HLEN : Shut (n = T.nodes.length) := ⟨by rw [hn, ← hr, nds_len]⟩
 have HNODE : Shut (∀ j (hj : j < rs.length) (h2 : j < T.nodes.length), T.nodes[j] = rs[j].nd) := ⟨fun j hj hj2 => by
  have : (nds rs)[j]'(by rw [nds_len]; exact hj) = rs[j].nd := by simp [nds]
  rw [← this]
  congr 1
  exact hr.symm⟩
 have HTR := Shut.mk hm
 have HN := Shut.mk hn
 clear hm hr hn hnx h' hR hB hf hI
 go_enter Tryz.func24, Tryz.ntmps24
 go_upto_region 1 with fail
 obtain ⟨tb, htb⟩ : ∃ tb, tb = w.heap.size := ⟨_, rfl⟩
 refine wp_shade (fun W => MB w W [(tb, [.slice a n cap, .int .i64 nx])]) (by rw [htb]; exact (MB.nil w).new #[.slice a n cap, .int .i64 nx] 26) ?_
 intro W1 hW1
 have HM := Shut.mk hW1
 rw [← htb]
 have x0 := ((HM.out.at 0 rfl).1.2 0 _ rfl).1
 have x1 := ((HM.out.at 0 rfl).1.2 1 _ rfl).1
 clear hW1 htb
 go_upto_region 2 with (go_at_call 37; refine (HBO.out _ HM.out.bel).mono ?_; rintro e w2 ⟨bv, rfl, hba, hb2⟩; replace HM := Shut.mk (HM.out.below hb2); have HBV := Shut.mk hba; clear hb2 hba x0 x1)
 obtain ⟨ba9, bc, rfl, hcr⟩ := HBV.out.crow
 have HCR : Shut (∀ W, Below w2.heap.size w2 W → CRow W ba9 (ics B)) := ⟨fun W hb => hcr.stays hb⟩
 obtain ⟨bm, hbm⟩ : ∃ bm, bm = B.length := ⟨_, rfl⟩
 have HBM := Shut.mk hbm
 rw [← hbm] at hbl ⊢
 have HMW : Shut (Below w.heap.size w w2) := ⟨HM.out.bel⟩
 have x0 := ((HM.out.at 0 rfl).1.2 0 _ rfl).1
 clear hcr HBV hbm
 go_wp2_with fail
 go_loopw [6, 17] (fun ov iv wr => ∃ (k m : Nat) (vv : Value), vv = ov ∧ iv = .int .i64 k ∧ k ≤ n ∧ m ≤ 600 ∧ Shut (IRow w2 wr vv m (allG (T.nodes.take k) B))) (fun _ iv _ => n - (intOf iv).toNat)
 case atStart => exact ⟨0, 0, _, rfl, rfl, Nat.zero_le _, Nat.zero_le _, ⟨by rw [List.take_zero]; unfold allG; rfl, Below.refl _ _, by rw [List.take_zero]; unfold allG; exact World.ownsRow_nil w2 w2.heap.size 3 1⟩⟩
 case round =>
  clear x0
  obtain ⟨k, m, ov, rfl, rfl, hk, hm, HG⟩ := hrel
  obtain ⟨wo, rfl⟩ : ∃ wo, wo = wr := ⟨_, rfl⟩
  by_cases hlt : k < n
  case neg =>
   have k1 : ¬ (k : Int) < (n : Int) := by omega
   have hall : T.nodes.take k = T.nodes := List.take_of_length_le (by have := HLEN.out; omega)
   rw [hall] at HG
   obtain ⟨Z, hZ⟩ : ∃ Z, Z = allG T.nodes B := ⟨_, rfl⟩
   rw [← hZ] at HG HGE
   have ho := HG.out.2.2
   have hml := HG.out.1
   rw [hml] at ho
   have HSO := Shut.mk (sortI_any ho (by omega))
   have HBG := Shut.mk HG.out.2.1
   have HZL : Shut (Z.length ≤ 600) := ⟨by omega⟩
   clear hall hZ ho hml HG
   go_wp2_with (go_at_call 79; refine HSO.out.mono ?_; rintro e w5 ⟨rfl, ho5, hb5⟩; have HO5 := Shut.mk ho5; have HB5 : Shut (Below w2.heap.size w2 w5) := ⟨HBG.out.trans hb5⟩; clear ho5 hb5)
   have hls : (Z.mergeSort fun x y => decide (x ≤ y)).length = Z.length := by simp
   have HCO := Shut.mk (compactI_any (zs := Z.mergeSort fun x y => decide (x ≤ y)) (by rw [hls]; exact HO5.out) (by have := HZL.out; omega))
   clear hls
   go_wp2_with (go_at_call 80; refine HCO.out.mono ?_; rintro e w6 ⟨v6, rfl, hi6, hb6⟩; have HI6 := Shut.mk hi6; have HB6 : Shut (Below w2.heap.size w2 w6) := ⟨HB5.out.trans hb6⟩; clear hi6 hb6)
   go_ret
   refine ⟨v6, rfl, ?_, HMW.out.trans (HB6.out.mono HMW.out.size)⟩
   have h9 := HI6.out
   rw [HGE.out] at h9
   obtain ⟨a9, c9, e9, q1, q2⟩ := h9
   exact ⟨a9, c9, e9, q1, q2.imp (fun e => e) (fun ⟨g, e1, e2, e3, e4⟩ => ⟨g, e1, Nat.le_trans HMW.out.size e2, e3, e4⟩)⟩
  case pos =>
  have hkr : k < rs.length := by have := HN.out; omega
  have hkT : k < T.nodes.length := by have := HLEN.out; omega
  have k0 : (0 : Int) ≤ (k : Int) := by omega
  have k1 : (k : Int) < (n : Int) := by omega
  obtain ⟨b, off, rfl, lb, hnat⟩ := HTR.out.nat (by omega)
  have hBw : Below w.heap.size w wo := HMW.out.trans (HG.out.2.1.mono HMW.out.size)
  have hnk := (hnat k hkr).below hBw lb
  have hst := allG_take T.nodes B k hkT
  have hp40 := HP40.out k hkT
  have hpsz := (HPC.out T.nodes[k] (List.getElem_mem hkT)).2
  rw [HNODE.out k hkr hkT] at hst hp40 hpsz
  have HPR := Shut.mk (HTR.out.2 _ (List.getElem_mem hkr))
  have hgl := HGL.out k
  rw [← HG.out.1] at hgl
  obtain ⟨r, hrk⟩ : ∃ r, r = rs[k] := ⟨_, rfl⟩
  rw [← hrk] at hnk hst hp40 hpsz HPR
  obtain ⟨c0, c1, c2, c3, c4, c5, c6, c7, c8⟩ := hnk
  have lbo : b < wo.heap.size := Nat.lt_of_lt_of_le lb hBw.size
  have HST := Shut.mk hst
  have HBW := Shut.mk hBw
  have HP4 := Shut.mk hp40
  clear hrk hst hnat hBw hp40
  go_upto_region 6 with fail
  obtain ⟨xb, hxb⟩ : ∃ xb, xb = wo.heap.size := ⟨_, rfl⟩
  refine wp_shade (fun W => Below wo.heap.size wo W ∧ WCells W xb (ncells r)) ⟨(Below.refl _ _).alloc (Nat.le_refl _) _, by rw [hxb]; exact wcells_new wo #[.int .i64 r.nd.id, .int .i64 r.nd.parent, .string r.nd.name, .bool r.nd.dir, .int .i64 r.nd.schema, .int .i64 r.nd.quota, .int .i64 r.nd.len, .slice r.loc r.nd.pieces.length r.cap, .int .i64 r.nd.writer] 47⟩ ?_
  rintro W3 ⟨hb3, hx3⟩
  rw [← hxb]
  have HG3 := Shut.mk (HG.out.below hb3)
  have HX3 := Shut.mk hx3
  have HB3 : Shut (Below w.heap.size w W3) := ⟨HBW.out.trans (hb3.mono HBW.out.size)⟩
  have y0 := (hx3.2 0 _ rfl).1
  have HCO := Shut.mk (implContains bc r.nd.id (HCR.out W3 HG3.out.2.1) (by have := HBM.out; omega))
  rw [← HBM.out] at HCO
  clear hb3 hx3 hxb HG HBW c0 c1 c2 c3 c4 c5 c6 c7 c8
  cases hco : B.contains r.nd.id with
  | false =>
   rw [hco] at HCO HST
   have HS' : Shut (allG (T.nodes.take (k + 1)) B = allG (T.nodes.take k) B) := ⟨by rw [HST.out]; simp⟩
   clear hco
   go_wp2_with (go_at_call 78; refine HCO.out.mono ?_; rintro e w4 ⟨rfl, hw4⟩; obtain rfl : W3 = w4 := hw4.symm; clear hw4)
   go_roundw
   case rel => exact ⟨k + 1, m, ov, rfl, by go_num, by omega, by omega, ⟨by rw [HS'.out]; exact HG3.out⟩⟩
   case measure => simp [intOf]; omega
  | true =>
   rw [hco] at HCO HST
   obtain ⟨hpl40, hn14⟩ := HP4.out hco
   have hn14' : n ≤ 14 := by have := HLEN.out; omega
   have y7 := (HX3.out.2 7 _ rfl).1
   obtain ⟨pl, hpl⟩ : ∃ pl, pl = r.nd.pieces.length := ⟨_, rfl⟩
   have HPL := Shut.mk hpl
   rw [← hpl] at y7 hpl40
   clear hco hpl
   go_wp2_with (go_at_call 78; refine HCO.out.mono ?_; rintro e w4 ⟨rfl, hw4⟩; obtain rfl : W3 = w4 := hw4.symm; clear hw4)
   go_loopw [6, 29] (fun ov iv wr => ∃ (j m' : Nat) (vv : Value), vv = ov ∧ iv = .int .i64 j ∧ j ≤ pl ∧ m' ≤ 40 * k + j ∧ Shut (IRow w2 wr vv m' (allG (T.nodes.take k) B ++ (r.nd.pieces.take j).map PM.group))) (fun _ iv _ => pl - (intOf iv).toNat)
   case atStart => exact ⟨0, m, ov, rfl, rfl, Nat.zero_le _, by omega, ⟨by rw [List.take_zero, List.map_nil, List.append_nil]; exact HG3.out⟩⟩
   case round =>
    obtain ⟨j, m', ov', rfl, rfl, hj, hm', HG'⟩ := hrel
    obtain ⟨wi, rfl⟩ : ∃ wi, wi = wr := ⟨_, rfl⟩
    by_cases hjl : j < pl
    case pos =>
     have hjp : j < r.nd.pieces.length := by have := HPL.out; omega
     have j0 : (0 : Int) ≤ (j : Int) := by omega
     have j1 : (j : Int) < (pl : Int) := by omega
     have hB5 : Below w.heap.size w wi := HMW.out.trans (HG'.out.2.1.mono HMW.out.size)
     obtain ⟨pb, poff, hloc, lpb, hpc⟩ := pcs_at (HPR.out.below hB5) (by omega)
     obtain ⟨z0, z1⟩ := hpc j hjp
     have hst := pm_take r.nd.pieces j hjp
     obtain ⟨q, hq⟩ : ∃ q, q = r.nd.pieces[j] := ⟨_, rfl⟩
     rw [← hq] at z0 z1 hst
     have HS' : Shut (allG (T.nodes.take k) B ++ (r.nd.pieces.take (j + 1)).map PM.group = (allG (T.nodes.take k) B ++ (r.nd.pieces.take j).map PM.group) ++ [q.group]) := ⟨by rw [hst, List.append_assoc]⟩
     obtain ⟨Z, hZ⟩ : ∃ Z, Z = allG (T.nodes.take k) B ++ (r.nd.pieces.take j).map PM.group := ⟨_, rfl⟩
     rw [← hZ] at HG' HS'
     rw [hloc]
     obtain ⟨⟨qg, ql⟩, rfl⟩ : ∃ q', q' = q := ⟨q, rfl⟩
     dsimp only at z0 z1 HS'
     clear hpc hq hst hB5 hZ hloc
     go_upto_region 10 with fail
     obtain ⟨qb, hqb⟩ : ∃ qb, qb = wi.heap.size := ⟨_, rfl⟩
     refine wp_shade (fun W => Below wi.heap.size wi W ∧ WCells W qb [.int .i64 qg, .int .i64 ql]) ⟨(Below.refl _ _).alloc (Nat.le_refl _) _, by rw [hqb]; exact wcells_new wi #[.int .i64 qg, .int .i64 ql] 99⟩ ?_
     rintro W6 ⟨hb6, hq6⟩
     rw [← hqb]
     have HG6 := Shut.mk (HG'.out.below hb6)
     have u0 := (hq6.2 0 _ rfl).1
     have ho := HG6.out.2.2
     have hsz : w2.heap.size ≤ W6.heap.size := HG6.out.2.1.size
     clear hb6 hq6 hqb HG' z0 z1
     go_wp2_with (at_builtin; refine wpList_append_own _ rfl _ _ 37 rfl w2.heap.size 3 t0 (.int .i64 0) 1 8 Tryz.underlying37 ht0 hty0 hty1 hty2 rfl (by decide) _ _ _ rfl (ho.alloc _) ⟨W6.heap.size, 0, none⟩ 1 1 [.int .i64 qg] rfl rfl (cell_one_new _ _ _) ?c2 ?c3 ?c4 ?c5 ?_)
     case c2 => first | rfl | (intro u hu; simp at hu; subst hu; rfl)
     case c3 => unfold maxLen; omega
     case c4 => omega
     case c5 => first | omega | (simp; omega)
     intro v' w10 ho10 hgrow _
     have HG2 := Shut.mk (HG6.out.snoc ho10 hgrow)
     rw [← HS'.out] at HG2
     clear ho ho10 hgrow
     go_wp2_with fail
     go_roundw
     case rel => exact ⟨j + 1, m' + 1, v', rfl, by go_num, by omega, by omega, HG2⟩
     case measure => simp [intOf]; omega
    case neg =>
     have j1 : ¬ (j : Int) < (pl : Int) := by omega
     have hall : r.nd.pieces.take j = r.nd.pieces := List.take_of_length_le (by have := HPL.out; omega)
     rw [hall] at HG'
     have HS' : Shut (allG (T.nodes.take (k + 1)) B = allG (T.nodes.take k) B ++ r.nd.pieces.map PM.group) := ⟨by rw [HST.out]; simp⟩
     clear hall
     go_wp2_with fail
     go_roundw
     case rel => exact ⟨k + 1, m', ov', rfl, by go_num, by omega, by omega, ⟨by rw [HS'.out]; exact HG'.out⟩⟩
     case measure => simp [intOf]; omega
end Go.Proofs.YtakhagkhngmpaaaGreat
