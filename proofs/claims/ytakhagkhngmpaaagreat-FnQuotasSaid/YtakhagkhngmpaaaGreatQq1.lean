/- Texts of ours, laid one behind the other: Bytes, Draw, DrawB, DrawP, DrPk, RowsG, DrPth, BRowM, DrawC, IntsA, NestA, GenA, TreA, SchZ, Words, VarL, SpnA, PathM, TreM, TreC, TreD, TreE, TreP, TreQ, StrsA, DecM, Dec, StrsB, TvA, StrV, PathA. -/
import Derived.Test.YtakhagkhngmpaaaGreatRows
import Derived.WalkKit
import Derived.WalkLawsBesides
import Derived.Handy
import Derived.Below
import Derived.Laws.IdiomStrings
import Derived.Laws.BytesArg
import Derived.Maps.AppendAt
import Derived.Laws.DeepStrings4
import Derived.PlainAid
import Derived.Deep.QuietTactic
import Derived.BigQuiet
import Derived.Deep.RegionHeld3
import Derived.Deep.DrawnRows
import Derived.OwnWalk
import Derived.OpenShut
import Derived.Deep.CutRange
import Derived.Deep.LoopGhost
/- Bytes: . -/
namespace Go.Proofs.YtakhagkhngmpaaaGreat
set_option maxRecDepth 100000
open Go.RowKit
def bv (l : List UInt8) : List Value := l.map fun b => .int .u8 (b.toNat : Int)
theorem slice_str (s : ByteArray) (a b : Nat) (h1 : a ≤ b) (h2 : b ≤ s.size) (w : World) :
  (Instr.slice 9 (.string s) (some (.int .i64 (a : Int))) (some (.int .i64 (b : Int))) none).run Tryz.prog w = .ok (.string (s.extract a b)) w := by
 rw [run_slice_string_if w 9 s .i64 .i64 a b Tryz.underlying9, if_pos ⟨by omega, by omega⟩, if_pos ⟨by omega, by omega⟩]
 rfl
end Go.Proofs.YtakhagkhngmpaaaGreat
/- Draw: . -/
namespace Go.Proofs.YtakhagkhngmpaaaGreat
set_option maxRecDepth 100000
open Go.RowKit
attribute [local go_sem ↓] Go.wp_at_zero Go.wp_at_succ
def CodeAt (w : World) (B : Nat) (a : Option Addr) (len : Nat) : Prop :=
 len ≤ 1048576 ∧ (0 < len → ∃ b off, a = some ⟨b, off, none⟩ ∧ b < B ∧ ∀ j, j < len → ∃ x : Int, w.cell? ⟨b, off + j, none⟩ = some (.int .u8 x) ∧ 0 ≤ x ∧ x ≤ 255)
def Cur (w : World) (g B : Nat) (a : Option Addr) (len cap : Nat) : Prop :=
 B ≤ g ∧ g < w.heap.size ∧ CodeAt w B a len ∧ w.cell? ⟨g, 0, none⟩ = some (.slice a len cap) ∧
 (∃ i : Nat, w.cell? ⟨g, 1, none⟩ = some (.int .i64 i) ∧ i ≤ len) ∧ (∃ h : Int, w.cell? ⟨g, 2, none⟩ = some (.int .i64 h)) ∧
 (∀ j, j < 3 → w.frozen? ⟨g, j, none⟩ = false)
def BytePost (w : World) (g B : Nat) (a : Option Addr) (len cap : Nat) (e : Ending) (w' : World) : Prop :=
 ∃ x : Int, e = .returned (.int .i64 x) ∧ 0 ≤ x ∧ x ≤ 255 ∧ Cur w' g B a len cap ∧ w.grownBy w' (some g)
theorem and255 (n : Int) : 0 ≤ bits .and .i64 n 255 ∧ bits .and .i64 n 255 ≤ 255 := by
 have h255 : (BitVec.ofInt 64 255).toNat = 2 ^ 8 - 1 := by decide
 have key : (BitVec.ofInt 64 n &&& BitVec.ofInt 64 255).toNat = (n % ((2 ^ 64 : Nat) : Int)).toNat % 2 ^ 8 := by
  rw [BitVec.toNat_and, BitVec.toNat_ofInt, h255, Nat.and_two_pow_sub_one_eq_mod]
 have e : bits .and .i64 n 255 = n % 256 := by
  show IntKind.i64.wrap ((BitVec.ofInt 64 n &&& BitVec.ofInt 64 255).toNat : Nat) = n % 256
  rw [key, IntKind.wrap_i64]
  omega
 rw [e]; omega
theorem gb_set (w : World) (g i : Nat) (v : Value) : w.grownBy (w.setCell ⟨g, i, none⟩ v) (some g) :=
 ⟨rfl, rfl, rfl, by simp [World.setCell], fun k _ hk => Below.heap_setCell _ _ _ _ (fun e => hk (by rw [e]))⟩
theorem gb_drewN (w : World) (q : Nat) (row : Option Nat) : w.grownBy (w.drewN q) row := ⟨rfl, rfl, rfl, Nat.le_refl _, fun _ _ _ => rfl⟩
theorem gb_two {a b c : World} {row : Option Nat} (h : a.grownBy b row) (k : b.grownBy c row) : a.grownBy c row :=
 ⟨k.os.trans h.os, k.tape.trans h.tape, k.output.trans h.output, Nat.le_trans h.size k.size, fun i hi hn => (k.block i (Nat.lt_of_lt_of_le hi h.size) hn).trans (h.block i hi hn)⟩
theorem gb_below {w w' : World} {row : Option Nat} (h : Below w.heap.size w w') : w.grownBy w' row := ⟨h.os, h.tape, h.output, h.size, fun k hk _ => h.block k hk⟩
theorem below_gb {w w' : World} {g B : Nat} (h : w.grownBy w' (some g)) (hB : B ≤ g) (hs : B ≤ w.heap.size) : Below B w w' :=
 ⟨h.os, h.tape, h.output, h.size, fun k hk => h.block k (by omega) (by simp; omega)⟩
theorem CodeAt.gb {w w' : World} {B g len : Nat} {a : Option Addr} (h : CodeAt w B a len) (hg : w.grownBy w' (some g)) (hB : B ≤ g) : CodeAt w' B a len := by
 refine ⟨h.1, fun hl => ?_⟩
 obtain ⟨b, off, rfl, hb, hx⟩ := h.2 hl
 refine ⟨b, off, rfl, hb, fun j hj => ?_⟩
 obtain ⟨x, hc, h0, h1⟩ := hx j hj
 exact ⟨x, hg.cell hc (by simp; omega), h0, h1⟩
theorem CodeAt.below {w w' : World} {B C len : Nat} {a : Option Addr} (h : CodeAt w B a len) (hb : Below C w w') (hC : B ≤ C) : CodeAt w' B a len := by
 refine ⟨h.1, fun hl => ?_⟩
 obtain ⟨b, off, rfl, hlt, hx⟩ := h.2 hl
 refine ⟨b, off, rfl, hlt, fun j hj => ?_⟩
 obtain ⟨x, hc, h0, h1⟩ := hx j hj
 exact ⟨x, (hb.cell (p := ⟨b, off + j, none⟩) (Nat.lt_of_lt_of_le hlt hC)).trans hc, h0, h1⟩
theorem Cur.below {w w' : World} {g B len cap : Nat} {a : Option Addr} (h : Cur w g B a len cap) (hb : Below w.heap.size w w') : Cur w' g B a len cap := by
 obtain ⟨hB, hg, hcode, c0, ⟨i, c1, hi⟩, ⟨k, c2⟩, hf⟩ := h
 exact ⟨hB, Nat.lt_of_lt_of_le hg hb.size, hcode.below hb (by omega), (hb.cell (p := ⟨g, 0, none⟩) hg).trans c0, ⟨i, (hb.cell (p := ⟨g, 1, none⟩) hg).trans c1, hi⟩, ⟨k, (hb.cell (p := ⟨g, 2, none⟩) hg).trans c2⟩,
  fun j hj => (hb.frozen (p := ⟨g, j, none⟩) hg).trans (hf j hj)⟩
theorem Cur.seth {w : World} {g B len cap : Nat} {a : Option Addr} (h : Cur w g B a len cap) (k : Int) : Cur (w.setCell ⟨g, 2, none⟩ (.int .i64 k)) g B a len cap := by
 obtain ⟨hB, hg, hcode, c0, ⟨i, c1, hi⟩, ⟨k', c2⟩, hf⟩ := h
 exact ⟨hB, by simpa [World.setCell] using hg, hcode.gb (gb_set _ _ _ _) hB, (World.cell?_setCell_other _ _ _ _ (by simp)).trans c0, ⟨i, (World.cell?_setCell_other _ _ _ _ (by simp)).trans c1, hi⟩, ⟨k, World.cell?_setCell_same _ _ _ c2⟩,
  fun j hj => (World.frozen?_setCell _ _ _ _).trans (hf j hj)⟩
theorem Cur.seti {w : World} {g B len cap : Nat} {a : Option Addr} (h : Cur w g B a len cap) (i : Nat) (hi : i ≤ len) : Cur (w.setCell ⟨g, 1, none⟩ (.int .i64 i)) g B a len cap := by
 obtain ⟨hB, hg, hcode, c0, ⟨i', c1, _⟩, ⟨k, c2⟩, hf⟩ := h
 exact ⟨hB, by simpa [World.setCell] using hg, hcode.gb (gb_set _ _ _ _) hB, (World.cell?_setCell_other _ _ _ _ (by simp)).trans c0, ⟨i, World.cell?_setCell_same _ _ _ c1, hi⟩, ⟨k, (World.cell?_setCell_other _ _ _ _ (by simp)).trans c2⟩,
  fun j hj => (World.frozen?_setCell _ _ _ _).trans (hf j hj)⟩
theorem drewN_bel (B : Nat) (w : World) (q : Nat) : Below B w (w.drewN q) := ⟨rfl, rfl, rfl, Nat.le_refl _, fun _ _ => rfl⟩
theorem byte_more {w : World} {g B len cap i : Nat} {a : Option Addr} (h : Cur w g B a len cap) (hi : i < len) (k : Int) (q : Nat) (y : Int) (hy : y = ((i + 1 : Nat) : Int)) (x : Int) (h0 : 0 ≤ x) (h1 : x ≤ 255) :
  BytePost w g B a len cap (.returned (.int .i64 x)) (((w.setCell ⟨g, 2, none⟩ (.int .i64 k)).drewN q).setCell ⟨g, 1, none⟩ (.int .i64 y)) := by
 subst hy
 exact ⟨x, rfl, h0, h1, (((h.seth k).below (drewN_bel _ _ _)).seti (i + 1) (by omega)), gb_two (gb_two (gb_set _ _ _ _) (gb_drewN _ _ _)) (gb_set _ _ _ _)⟩
theorem byte_over2 {w : World} {g B len cap : Nat} {a : Option Addr} (h : Cur w g B a len cap) (k : Int) (q q' : Nat) (x : Int) (h0 : 0 ≤ x) (h1 : x ≤ 255) :
  BytePost w g B a len cap (.returned (.int .i64 x)) (((w.setCell ⟨g, 2, none⟩ (.int .i64 k)).drewN q).drewN q') :=
 ⟨x, rfl, h0, h1, (((h.seth k).below (drewN_bel _ _ _)).below (drewN_bel _ _ _)), gb_two (gb_two (gb_set _ _ _ _) (gb_drewN _ _ _)) (gb_drewN _ _ _)⟩
set_option maxHeartbeats 1000000 in
theorem l01Byte_any (w : World) (g B : Nat) (a : Option Addr) (len cap : Nat) (hc : Cur w g B a len cap) :
  Calls Tryz.prog 83 #[.pointer (some ⟨g, 0, none⟩)] w fun e w' => BytePost w g B a len cap e w' := by
 have HC : Hid (Cur w g B a len cap) := hc
 obtain ⟨hB, hg, hcode, c0, ⟨i, c1, hi⟩, ⟨h, c2⟩, hf⟩ := hc
 have f1 := hf 1 (by omega)
 have f2 := hf 2 (by omega)
 have hl := hcode.1
 by_cases hlt : i < len
 ·obtain ⟨b, off, rfl, hb, hcx⟩ := hcode.2 (by omega)
  obtain ⟨x, c3, x0, x1⟩ := hcx i hlt
  have i0 : (0 : Int) ≤ (i : Int) := by omega
  have i1 : (i : Int) < (len : Int) := by omega
  have hne : b ≠ g := by omega
  clear hcode hf hcx
  go_enter Tryz.func83, Tryz.ntmps83
  go_wp2_with fail
  go_quiet (fail)
  go_wp2_with fail
  go_quiet (fail)
  go_wp2_with fail
  go_quiet (fail)
  go_wp2_with fail
  go_ret
  exact byte_more HC.out hlt _ _ _ (by first | omega | (simp only [wrap64]; omega)) _ (and255 _).1 (and255 _).2
 ·have i1 : decide ((i : Int) < (len : Int)) = false := by simp; omega
  clear hcode hf
  go_enter Tryz.func83, Tryz.ntmps83
  go_wp2_with fail
  go_quiet (fail)
  go_wp2_with fail
  go_quiet (fail)
  go_wp2_with fail
  go_ret
  exact byte_over2 HC.out _ _ _ _ (and255 _).1 (and255 _).2
def BelowPost (w : World) (g B : Nat) (a : Option Addr) (len cap : Nat) (n : Int) (e : Ending) (w' : World) : Prop :=
 ∃ x : Int, e = .returned (.int .i64 x) ∧ 0 ≤ x ∧ (x < n ∨ x = 0) ∧ Cur w' g B a len cap ∧ w.grownBy w' (some g)
set_option maxHeartbeats 1000000 in
theorem l01Below_any (w : World) (g B : Nat) (a : Option Addr) (len cap : Nat) (n : Int) (hn : n ≤ 9223372036854775807) (hc : Cur w g B a len cap) :
  Calls Tryz.prog 56 #[.pointer (some ⟨g, 0, none⟩), .int .i64 n] w fun e w' => BelowPost w g B a len cap n e w' := by
 have HC : Hid (Cur w g B a len cap) := hc
 clear hc
 by_cases h0 : n ≤ 0
 ·go_enter Tryz.func56, Tryz.ntmps56
  go_wp2_with fail
  go_ret
  exact ⟨0, rfl, by omega, .inr rfl, HC.out, gb_drewN w 0 _⟩
 ·by_cases h1 : n ≤ 256
  ·have hnz : (n == 0) = false := by rw [beq_eq_false_iff_ne]; omega
   go_enter Tryz.func56, Tryz.ntmps56
   go_wp2_with fail
   refine (l01Byte_any _ g B a len cap HC.out).mono ?_
   rintro e w1 ⟨x, rfl, x0, x1, hc1, hg1⟩
   have HC1 : Hid (Cur w1 g B a len cap) := hc1
   have HG : Hid _ := hg1
   clear hc1 hg1
   go_wp2_with fail
   go_ret
   exact ⟨x % n, rfl, Int.emod_nonneg _ (by omega), .inl (Int.emod_lt_of_pos _ (by omega)), HC1.out, HG.out⟩
  ·go_enter Tryz.func56, Tryz.ntmps56
   go_wp2_with fail
   refine (l01Byte_any _ g B a len cap HC.out).mono ?_
   rintro e w1 ⟨x, rfl, x0, x1, hc1, hg1⟩
   have HC1 : Hid (Cur w1 g B a len cap) := hc1
   have HG1 : Hid (w.grownBy w1 (some g)) := hg1
   clear hc1 hg1
   go_wp2_with fail
   refine (l01Byte_any _ g B a len cap HC1.out).mono ?_
   rintro e w2 ⟨y, rfl, y0, y1, hc2, hg2⟩
   have HC2 : Hid (Cur w2 g B a len cap) := hc2
   have HG2 : Hid (w.grownBy w2 (some g)) := gb_two HG1.out hg2
   clear hc2 hg2
   go_wp2_with fail
   refine (l01Byte_any _ g B a len cap HC2.out).mono ?_
   rintro e w3 ⟨z, rfl, z0, z1, hc3, hg3⟩
   have HC3 : Hid (Cur w3 g B a len cap) := hc3
   have HG3 : Hid (w.grownBy w3 (some g)) := gb_two HG2.out hg3
   clear hc3 hg3
   go_wp2_with fail
   refine (l01Byte_any _ g B a len cap HC3.out).mono ?_
   rintro e w4 ⟨u, rfl, u0, u1, hc4, hg4⟩
   have HC4 : Hid (Cur w4 g B a len cap) := hc4
   have HG4 : Hid (w.grownBy w4 (some g)) := gb_two HG3.out hg4
   clear hc4 hg4
   go_wp2_with fail
   go_ret
   exact ⟨(x * 16777216 + y * 65536 + z * 256 + u) % n, rfl, Int.emod_nonneg _ (by omega), .inl (Int.emod_lt_of_pos _ (by omega)), HC4.out, HG4.out⟩
end Go.Proofs.YtakhagkhngmpaaaGreat
/- DrawB: . -/
namespace Go.Proofs.YtakhagkhngmpaaaGreat
set_option maxRecDepth 100000
open Go.RowKit
def NewPost (w : World) (a : Option Addr) (len cap : Nat) (e : Ending) (w' : World) : Prop :=
 ∃ g, e = .returned (.pointer (some ⟨g, 0, none⟩)) ∧ w.heap.size ≤ g ∧ Cur w' g w.heap.size a len cap ∧ Below w.heap.size w w'
theorem new_post {w : World} {a : Option Addr} {len cap : Nat} (hc : CodeAt w w.heap.size a len) (h : Int) :
  NewPost w a len cap (.returned (.pointer (some ⟨w.heap.size, 0, none⟩))) (w.alloc (.cells #[.slice a len cap, .int .i64 0, .int .i64 h] 117)) := by
 have hb : Below w.heap.size w (w.alloc (.cells #[.slice a len cap, .int .i64 0, .int .i64 h] 117)) := (Below.refl _ _).alloc (Nat.le_refl _) _
 refine ⟨_, rfl, Nat.le_refl _, ⟨Nat.le_refl _, by simp, hc.below hb (Nat.le_refl _), ?_, ⟨0, ?_, Nat.zero_le _⟩, ⟨h, ?_⟩, fun j hj => ?_⟩, hb⟩
 ·rw [World.cell?_alloc_mark]; rfl
 ·rw [World.cell?_alloc_mark]; rfl
 ·rw [World.cell?_alloc_mark]; rfl
 ·rw [World.frozen?_alloc_mark]; simp
set_option maxHeartbeats 1000000 in
theorem l01New_any (w : World) (a : Option Addr) (len cap : Nat) (hc : CodeAt w w.heap.size a len) :
  Calls Tryz.prog 52 #[.slice a len cap] w fun e w' => NewPost w a len cap e w' := by
 have hl := hc.1
 go_enter Tryz.func52, Tryz.ntmps52
 go_wp2_with fail
 go_loop [3, 4] (fun h i => ∃ (k : Nat) (hh : Int), h = .int .i64 hh ∧ i = .int .i64 k ∧ k ≤ len) (fun _ i => len - (intOf i).toNat)
 case atStart => exact ⟨0, _, rfl, rfl, Nat.zero_le _⟩
 case round =>
  obtain ⟨k, hh, rfl, rfl, hk⟩ := hrel
  by_cases hlt : k < len
  ·by_cases h4 : k < 4000
   ·obtain ⟨b, off, rfl, hb, hx⟩ := hc.2 (by omega)
    obtain ⟨x, cx, x0, x1⟩ := hx k hlt
    have k0 : (0 : Int) ≤ (k : Int) := by omega
    have k1 : (k : Int) < (len : Int) := by omega
    clear hx
    go_wp2_with fail
    go_round
    case rel => exact ⟨k + 1, _, rfl, by go_num, by omega⟩
    case measure => simp [intOf]; omega
   ·have h4' : ¬ (k : Int) < 4000 := by omega
    go_wp2_with fail
    go_ret
    exact new_post hc _
  ·go_wp2_with fail
   go_ret
   exact new_post hc _
def OncePost (w : World) (g B : Nat) (a : Option Addr) (len cap : Nat) (e : Ending) (w' : World) : Prop :=
 ∃ b : Bool, e = .returned (.bool b) ∧ Cur w' g B a len cap ∧ w.grownBy w' (some g)
theorem l01Once_any (w : World) (g B : Nat) (a : Option Addr) (len cap : Nat) (n : Int) (hn : n ≤ 9223372036854775807) (hc : Cur w g B a len cap) :
  Calls Tryz.prog 55 #[.pointer (some ⟨g, 0, none⟩), .int .i64 n] w fun e w' => OncePost w g B a len cap e w' := by
 have HC : Hid (Cur w g B a len cap) := hc
 clear hc
 go_enter Tryz.func55, Tryz.ntmps55
 go_wp2_with fail
 refine (l01Below_any _ g B a len cap n hn HC.out).mono ?_
 rintro e w1 ⟨x, rfl, x0, x1, hc1, hg1⟩
 have HC1 : Hid (Cur w1 g B a len cap) := hc1
 have HG : Hid (w.grownBy w1 (some g)) := hg1
 clear hc1 hg1
 go_wp2_with fail
 go_ret
 exact ⟨x == 0, rfl, HC1.out, HG.out⟩
def iv (l : List Int) : List Value := l.map fun x => .int .i64 x
theorem cell_block {w : World} {a : Addr} {v : Value} (h : w.cell? a = some v) : a.block < w.heap.size := by
 by_cases hb : a.block < w.heap.size
 ·exact hb
 ·unfold World.cell? at h
  rw [Array.getElem?_eq_none (by omega)] at h
  simp at h
theorem code_at {w : World} {a : Option Addr} {len cap : Nat} {zs : List Int} (hl : len ≤ 1048576)
  (h : (a = none ∧ len = 0) ∨ ∃ x, a = some x ∧ len ≤ cap ∧ zs.length = cap ∧ (∀ i, i < zs.length → w.cell? (x.add i) = some (.int .u8 (zs.getD i 0))) ∧ ∀ n ∈ zs, (Lit.int .u8 n).wf = true) : CodeAt w w.heap.size a len := by
 refine ⟨hl, fun hp => ?_⟩
 rcases h with ⟨_, h0⟩ | ⟨x, rfl, hlc, hz, hc, hw⟩
 ·omega
 ·obtain ⟨b, off, spot⟩ := x
  have hs : spot = none := by simpa [Addr.add] using World.cell?_spot (hc 0 (by omega))
  subst hs
  refine ⟨b, off, rfl, ?_, fun j hj => ?_⟩
  ·have := cell_block (hc 0 (by omega)); simpa [Addr.add] using this
  ·have h1 := hc j (by omega)
   have e : (⟨b, off, none⟩ : Addr).add j = ⟨b, off + j, none⟩ := by cases j <;> simp [Addr.add]
   rw [e] at h1
   have hm : zs.getD j 0 ∈ zs := by
    have : j < zs.length := by omega
    simp [List.getD, this]
   have := bounds_u8 (hw _ hm)
   exact ⟨_, h1, this.1, by omega⟩
theorem big_any (a : Option Addr) (len cap : Nat) (w : World) :
  Calls Tryz.prog 11 #[.slice a len cap] w fun e w' => e = .returned (.bool (decide ((1048576 : Int) < len))) ∧ w' = w := by
 go_enter Tryz.func11, Tryz.ntmps11
 go_wp2_with fail
 go_ret
 exact ⟨rfl, rfl⟩
end Go.Proofs.YtakhagkhngmpaaaGreat
/- DrPk: . -/
namespace Go.Proofs.YtakhagkhngmpaaaGreat
set_option maxRecDepth 100000
open Go.RowKit
attribute [local go_sem ↓] Go.wp_at_zero Go.wp_at_succ
def noZ (t : ByteArray) : Bool := t.data.toList.all (· != 122)
theorem noZ_app (a b : ByteArray) : noZ (a ++ b) = (noZ a && noZ b) := by unfold noZ; rw [ByteArray.toList_data_append, List.all_append]
def PickPostS (P : ByteArray → Prop) (w : World) (g B : Nat) (a : Option Addr) (len cap : Nat) (e : Ending) (w' : World) : Prop :=
 ∃ x : ByteArray, e = .returned (.string x) ∧ P x ∧ Cur w' g B a len cap ∧ w.grownBy w' (some g)
set_option maxHeartbeats 400000 in
theorem l01Pick_in (P : ByteArray → Prop) (w : World) (g B : Nat) (a : Option Addr) (len cap : Nat) (gl m : Nat) (hm : 0 < m) (hm2 : m ≤ 1000) (hne : gl ≠ g) (hl : ∀ j, j < m → ∃ y : ByteArray, w.cell? ⟨gl, j, none⟩ = some (.string y) ∧ P y) (hc : Cur w g B a len cap) :
  Calls Tryz.prog 57 #[.pointer (some ⟨g, 0, none⟩), .slice (some ⟨gl, 0, none⟩) m m] w fun e w' => PickPostS P w g B a len cap e w' := by
 have HC : Hid (Cur w g B a len cap) := hc
 have HL : Hid (∀ j, j < m → ∃ y : ByteArray, w.cell? ⟨gl, j, none⟩ = some (.string y) ∧ P y) := hl
 clear hc hl
 go_enter Tryz.func57, Tryz.ntmps57
 go_wp2_with fail
 refine (l01Below_any _ g B a len cap m (by omega) HC.out).mono ?_
 rintro e w1 ⟨x, rfl, x0, x1, hc1, hg1⟩
 have HC1 : Hid (Cur w1 g B a len cap) := hc1
 have HG : Hid (w.grownBy w1 (some g)) := hg1
 obtain ⟨j, rfl⟩ := Int.eq_ofNat_of_zero_le x0
 obtain ⟨y, hy, hp⟩ := HL.out j (by omega)
 have c1 := hg1.cell hy (by simp; omega)
 have j1 : (j : Int) < (m : Int) := by omega
 have HP : Hid (P y) := hp
 clear hc1 hg1 hy hp
 go_wp2_with fail
 go_ret
 exact ⟨y, rfl, HP.out, HC1.out, HG.out⟩
theorem new_texts (w : World) (t : TypeId) (P : ByteArray → Prop) (L : List ByteArray) (h : ∀ y ∈ L, P y) (j : Nat) (hj : j < L.length) :
  ∃ y : ByteArray, (w.alloc (.cells (L.map Value.string).toArray t)).cell? ⟨w.heap.size, j, none⟩ = some (.string y) ∧ P y := by
 rw [World.cell?_alloc_mark]
 exact ⟨L[j], by simp [hj], h _ (List.getElem_mem hj)⟩
end Go.Proofs.YtakhagkhngmpaaaGreat
/- RowsG: . -/
namespace Go.Proofs.YtakhagkhngmpaaaGreat
set_option maxRecDepth 100000
open Go.RowKit
theorem flat_len {α : Type} {enc : α → List Value} {sz : Nat} (hsz : ∀ x, (enc x).length = sz) (xs : List α) : (xs.flatMap enc).length = xs.length * sz := by
 induction xs with
 | nil => simp
 | cons x xs ih => simp only [List.flatMap_cons, List.length_append, List.length_cons, ih, hsz, Nat.add_mul]; omega
theorem flat_get {α : Type} {enc : α → List Value} {sz : Nat} (hsz : ∀ x, (enc x).length = sz) (xs : List α) (j : Nat) (h : j < xs.length) (i : Nat) (hi : i < sz) : (xs.flatMap enc)[j * sz + i]? = (enc xs[j])[i]? := by
 induction xs generalizing j with
 | nil => simp at h
 | cons x xs ih =>
  rw [List.flatMap_cons]
  cases j with
  | zero =>
   rw [List.getElem?_append_left (by rw [hsz]; omega)]
   simp
  | succ j =>
   rw [List.getElem?_append_right (by rw [hsz, Nat.add_mul]; omega), hsz]
   have := ih j (by simpa using h)
   rw [show (j + 1) * sz + i - sz = j * sz + i by rw [Nat.add_mul]; omega]
   simpa using this
theorem flat_set {α : Type} {enc : α → List Value} {sz : Nat} (hsz : ∀ x, (enc x).length = sz) (xs : List α) (j : Nat) (h : j < xs.length) (y : α) (n : Nat) (hn : n < xs.length * sz) :
  ((xs.set j y).flatMap enc)[n]? = if n / sz = j then (enc y)[n % sz]? else (xs.flatMap enc)[n]? := by
 have hp : 0 < sz := by
  cases sz with
  | zero => simp at hn
  | succ s => omega
 have hq : n / sz < xs.length := Nat.div_lt_of_lt_mul (by rwa [Nat.mul_comm] at hn)
 have hr := Nat.mod_lt n hp
 have e : n = n / sz * sz + n % sz := by rw [Nat.mul_comm]; exact (Nat.div_add_mod n sz).symm
 have l1 := flat_get hsz (xs.set j y) (n / sz) (by simpa using hq) (n % sz) hr
 have l2 := flat_get hsz xs (n / sz) hq (n % sz) hr
 rw [← e] at l1 l2
 rw [l1, l2]
 by_cases c : n / sz = j
 ·subst c; simp
 ·rw [if_neg c, List.getElem_set_ne (Ne.symm c)]
def CRow (w : World) (a : Option Addr) (L : List Value) : Prop :=
 0 < L.length → ∃ b off, a = some ⟨b, off, none⟩ ∧ b < w.heap.size ∧ ∀ i v, L[i]? = some v → w.cell? ⟨b, off + i, none⟩ = some v
theorem CRow.stays {w w' : World} {a : Option Addr} {L : List Value} (h : CRow w a L) (hb : Below w.heap.size w w') : CRow w' a L := by
 intro hp
 obtain ⟨b, off, e, hlt, hc⟩ := h hp
 exact ⟨b, off, e, Nat.lt_of_lt_of_le hlt hb.size, fun i v hv => by rw [hb.cell (p := ⟨b, off + i, none⟩) hlt]; exact hc i v hv⟩
def WCells (w : World) (g : Nat) (L : List Value) : Prop :=
 g < w.heap.size ∧ ∀ i v, L[i]? = some v → w.cell? ⟨g, i, none⟩ = some v ∧ w.frozen? ⟨g, i, none⟩ = false
theorem WCells.crow {w : World} {g : Nat} {L : List Value} (h : WCells w g L) : CRow w (some ⟨g, 0, none⟩) L := fun _ => ⟨g, 0, rfl, h.1, fun i v hv => by rw [Nat.zero_add]; exact (h.2 i v hv).1⟩
theorem WCells.below {w w' : World} {g B : Nat} {L : List Value} (h : WCells w g L) (hb : Below B w w') (hg : g < B) : WCells w' g L :=
 ⟨Nat.lt_of_lt_of_le h.1 hb.size, fun i v hv => ⟨(hb.cell (p := ⟨g, i, none⟩) hg).trans (h.2 i v hv).1, (hb.frozen (p := ⟨g, i, none⟩) hg).trans (h.2 i v hv).2⟩⟩
theorem WCells.set {w : World} {g : Nat} {L : List Value} (h : WCells w g L) (i : Nat) (x : Value) (hi : i < L.length) : WCells (w.setCell ⟨g, i, none⟩ x) g (L.set i x) := by
 refine ⟨by have := h.1; simpa [World.setCell] using this, fun j v hv => ?_⟩
 have hj : j < L.length := by
  have := (List.getElem?_eq_some_iff.1 hv).1
  simpa using this
 have hold := h.2 j L[j] (List.getElem?_eq_getElem hj)
 refine ⟨?_, (World.frozen?_setCell _ _ _ _).trans hold.2⟩
 by_cases e : j = i
 ·subst e
  rw [World.cell?_setCell_same _ _ _ hold.1]
  rw [List.getElem?_set_self hi] at hv
  exact hv
 ·rw [World.cell?_setCell_other _ _ _ _ (by first | (simp; done) | (simp; omega)), hold.1]
  rw [List.getElem?_set_ne (Ne.symm e), List.getElem?_eq_getElem hj] at hv
  exact hv
theorem own_wcells {w : World} {B g n cap t sz : Nat} {L : List Value} (h : w.ownsRow B t sz (.slice (some ⟨g, 0, none⟩) n cap) n L) : WCells w g L := by
 have hc := h.cells (g := g) rfl
 have hlt := h.lt g rfl
 obtain ⟨_, ⟨h0, _⟩ | ⟨g', cap', cur, he, hB, hcur, _, _, _, _⟩⟩ := h
 ·cases h0
 ·have eg : g' = g := by simp at he; exact he.1.symm
  subst eg
  refine ⟨hlt.2, fun j v hj => ⟨?_, ?_⟩⟩
  ·have := hc j v hj
   have e : (⟨g', 0, none⟩ : Addr).add j = ⟨g', j, none⟩ := by cases j <;> simp [Addr.add]
   rw [e] at this
   exact this
  ·unfold World.frozen?
   rw [hcur]; simp
def setL (L : List Value) (off : Nat) : List Value → List Value
 | [] => L
 | v :: vs => setL (L.set off v) (off + 1) vs
def setW (w : World) (g off : Nat) : List Value → World
 | [] => w
 | v :: vs => setW (w.setCell ⟨g, off, none⟩ v) g (off + 1) vs
theorem setL_cons (c : Value) (L : List Value) (off : Nat) (vs : List Value) : setL (c :: L) (off + 1) vs = c :: setL L off vs := by
 induction vs generalizing L off with
 | nil => rfl
 | cons v vs ih => simp only [setL, List.set_cons_succ]; exact ih _ _
theorem setL_app (A L : List Value) (off : Nat) (vs : List Value) : setL (A ++ L) (A.length + off) vs = A ++ setL L off vs := by
 induction A with
 | nil => simp
 | cons a A ih => rw [List.cons_append, List.length_cons, show A.length + 1 + off = (A.length + off) + 1 by omega, setL_cons, ih]; rfl
theorem setL_head (A R B : List Value) (h : A.length = B.length) : setL (A ++ R) 0 B = B ++ R := by
 induction B generalizing A with
 | nil => simp at h; subst h; rfl
 | cons b B ih =>
  cases A with
  | nil => simp at h
  | cons a A =>
   simp only [List.cons_append, setL, List.set_cons_zero, setL_cons]
   rw [ih A (by simpa using h)]
theorem flat_setL {α : Type} {enc : α → List Value} {sz : Nat} (hsz : ∀ x, (enc x).length = sz) (xs : List α) (j : Nat) (h : j < xs.length) (y : α) : setL (xs.flatMap enc) (j * sz) (enc y) = (xs.set j y).flatMap enc := by
 induction xs generalizing j with
 | nil => simp at h
 | cons x xs ih =>
  cases j with
  | zero =>
   simp only [Nat.zero_mul, List.flatMap_cons, List.set_cons_zero]
   exact setL_head _ _ _ (by rw [hsz, hsz])
  | succ j =>
   simp only [List.flatMap_cons, List.set_cons_succ]
   rw [show (j + 1) * sz = (enc x).length + j * sz by rw [hsz, Nat.add_mul]; omega, setL_app, ih j (by simpa using h)]
theorem WCells.setW {w : World} {g : Nat} {L : List Value} (h : WCells w g L) (off : Nat) (vs : List Value) (hl : off + vs.length ≤ L.length) : WCells (setW w g off vs) g (setL L off vs) := by
 induction vs generalizing w L off with
 | nil => exact h
 | cons v vs ih =>
  simp only [List.length_cons] at hl
  exact ih (h.set off v (by omega)) (off + 1) (by rw [List.length_set]; omega)
theorem WCells.setElem {α : Type} {enc : α → List Value} {sz : Nat} (hsz : ∀ x, (enc x).length = sz) {w : World} {g : Nat} {xs : List α} (h : WCells w g (xs.flatMap enc)) (j : Nat) (hj : j < xs.length) (y : α) :
  WCells (Go.Proofs.YtakhagkhngmpaaaGreat.setW w g (j * sz) (enc y)) g ((xs.set j y).flatMap enc) := by
 have hl : j * sz + (enc y).length ≤ (xs.flatMap enc).length := by
  rw [hsz, flat_len hsz]
  have := Nat.mul_le_mul_right sz (show j + 1 ≤ xs.length by omega)
  rw [Nat.add_mul] at this; omega
 have := h.setW (j * sz) (enc y) hl
 rwa [flat_setL hsz xs j hj y] at this
theorem wcells_new (w : World) (cs : Array Value) (t : TypeId) : WCells (w.alloc (.cells cs t)) w.heap.size cs.toList := by
 refine ⟨by simp, fun i v hv => ⟨?_, ?_⟩⟩
 ·rw [World.cell?_alloc_new]; simpa using hv
 ·unfold World.frozen?
  rw [heap_alloc_new]; simp
theorem WCells.alloc {w : World} {g : Nat} {L : List Value} (h : WCells w g L) (o : Obj) : WCells (w.alloc o) g L := h.below ((Below.refl _ _).alloc (Nat.le_refl _) o) h.1
theorem WCells.grow {w w' : World} {g : Nat} {L : List Value} (h : WCells w g L) (hb : Below w.heap.size w w') : WCells w' g L := h.below hb h.1
theorem WCells.other {w : World} {g : Nat} {L : List Value} (h : WCells w g L) (p : Addr) (x : Value) (hp : g ≠ p.block) : WCells (w.setCell p x) g L := by
 refine ⟨by have := h.1; simpa [World.setCell] using this, fun j v hv => ?_⟩
 have hold := h.2 j v hv
 refine ⟨?_, (World.frozen?_setCell _ _ _ _).trans hold.2⟩
 rw [← hold.1]
 exact World.cell?_of_block (Below.heap_setCell w p x g hp)
structure Shut (p : Prop) : Prop where
 out : p
end Go.Proofs.YtakhagkhngmpaaaGreat
/- DrPth: . -/
namespace Go.Proofs.YtakhagkhngmpaaaGreat
set_option maxRecDepth 100000
open Go.RowKit
attribute [local go_sem ↓] Go.wp_at_zero Go.wp_at_succ
def PathPost (m : Nat) (w : World) (g B : Nat) (a : Option Addr) (len cap : Nat) (e : Ending) (w' : World) : Prop :=
 ∃ t : ByteArray, e = .returned (.string t) ∧ (t.size ≤ m ∧ noZ t = true) ∧ Cur w' g B a len cap ∧ w.grownBy w' (some g)
set_option maxHeartbeats 1000000 in
theorem l09Path_any (w : World) (g B : Nat) (a : Option Addr) (len cap : Nat) (hc : Cur w g B a len cap) :
  Calls Tryz.prog 102 #[.pointer (some ⟨g, 0, none⟩)] w fun e w' => PathPost 16 w g B a len cap e w' := by
 have HC := Shut.mk hc
 have hgw := hc.2.1
 clear hc
 go_enter Tryz.func102, Tryz.ntmps102
 go_wp2_with fail
 go_loopw [3, 4] (fun s i wr => ∃ (k : Nat) (t : ByteArray), s = .string t ∧ i = .int .i64 k ∧ k ≤ 3 ∧ t.size ≤ 4 * k ∧ Shut (noZ t = true) ∧ Shut (Cur wr g B a len cap) ∧ Shut (w.grownBy wr (some g))) (fun _ i _ => 3 - (intOf i).toNat)
 case atStart => exact ⟨0, _, rfl, rfl, by omega, by decide, ⟨rfl⟩, HC, ⟨gb_below (Below.refl _ _)⟩⟩
 case round =>
  clear HC
  obtain ⟨k, t, rfl, rfl, hk, ht, hz, hcur, hgr⟩ := hrel
  have k0 : (0 : Int) ≤ (k : Int) := by omega
  go_wp2_with fail
  refine (l01Below_any _ g B a len cap 3 (by omega) hcur.out).mono ?_
  rintro e w1 ⟨x, rfl, x0, x1, hc1, hg1⟩
  obtain ⟨m, rfl⟩ := Int.eq_ofNat_of_zero_le x0
  have HC1 := Shut.mk hc1
  have HG1 := Shut.mk (gb_two hgr.out hg1)
  have hg1w := hc1.2.1
  clear hc1 hg1 hcur hgr
  by_cases hlt : k < 1 + m
  ·have hlt' : (k : Int) < 1 + (m : Int) := by omega
   have hlit : (#[.string ⟨#[97]⟩, .string ⟨#[98]⟩, .string ⟨#[99]⟩] : Array Value) = (List.map Value.string [⟨#[97]⟩, ⟨#[98]⟩, ⟨#[99]⟩]).toArray := rfl
   have HL := Shut.mk (new_texts w1 9 (fun y => y.size ≤ 3 ∧ noZ y = true) [⟨#[97]⟩, ⟨#[98]⟩, ⟨#[99]⟩] (by decide))
   rw [← hlit] at HL
   clear hlit
   go_wp2_with fail
   refine (l01Pick_in (fun y => y.size ≤ 3 ∧ noZ y = true) _ g B a len cap w1.heap.size 3 (by decide) (by decide) (by omega) HL.out (HC1.out.below ((Below.refl _ _).alloc (Nat.le_refl _) _))).mono ?_
   rintro e w2 ⟨y, rfl, ⟨hy, hyz⟩, hc2, hg2⟩
   have HZ : Shut (noZ (t ++ ⟨#[47]⟩ ++ y) = true) := ⟨by rw [noZ_app, noZ_app, hz.out, hyz]; rfl⟩
   clear hyz
   have HC2 := Shut.mk hc2
   have HG2 := Shut.mk (gb_two HG1.out (gb_two (gb_below ((Below.refl _ _).alloc (Nat.le_refl _) _)) hg2))
   clear hc2 hg2
   go_wp2_with fail
   go_roundw
   case rel => exact ⟨k + 1, _, rfl, by go_num, by omega, by
    have : (⟨#[47]⟩ : ByteArray).size = 1 := rfl
    simp only [ByteArray.size_append]; omega, HZ, HC2, HG2⟩
   case measure => simp [intOf]; omega
  ·have hlt' : ¬ (k : Int) < 1 + (m : Int) := by omega
   go_wp2_with fail
   go_ret
   exact ⟨t, rfl, ⟨by omega, hz.out⟩, HC1.out, HG1.out⟩
end Go.Proofs.YtakhagkhngmpaaaGreat
/- BRowM: . -/
namespace Go.Proofs.YtakhagkhngmpaaaGreat
set_option maxRecDepth 100000
open Go.RowKit
def BRow (w : World) (g : Nat) (l : List UInt8) : Prop :=
 g < w.heap.size ∧ ∀ j, j < l.length → w.cell? ⟨g, j, none⟩ = some (.int .u8 ((l.getD j 0).toNat : Int)) ∧ w.frozen? ⟨g, j, none⟩ = false
theorem BRow.set {w : World} {g : Nat} {l : List UInt8} (h : BRow w g l) (i : Nat) (x : UInt8) (hi : i < l.length) : BRow (w.setCell ⟨g, i, none⟩ (.int .u8 (x.toNat : Int))) g (l.set i x) := by
 refine ⟨by have := h.1; simpa [World.setCell] using this, fun j hj => ?_⟩
 rw [List.length_set] at hj
 refine ⟨?_, (World.frozen?_setCell _ _ _ _).trans (h.2 j hj).2⟩
 by_cases e : j = i
 ·subst e
  rw [World.cell?_setCell_same _ _ _ (h.2 j hj).1]
  simp [List.getD, hi]
 ·rw [World.cell?_setCell_other _ _ _ _ (by first | (simp; done) | (simp; omega)), (h.2 j hj).1]
  simp [List.getD, Ne.symm e]
def IntPost (w : World) (g B : Nat) (a : Option Addr) (len cap : Nat) (e : Ending) (w' : World) : Prop :=
 ∃ x : Int, e = .returned (.int .i64 x) ∧ Cur w' g B a len cap ∧ w.grownBy w' (some g)
set_option maxHeartbeats 400000 in
theorem l01PickInt_any (w : World) (g B : Nat) (a : Option Addr) (len cap : Nat) (gl m : Nat) (hm : 0 < m) (hm2 : m ≤ 1000) (hne : gl ≠ g) (hl : ∀ j, j < m → ∃ y : Int, w.cell? ⟨gl, j, none⟩ = some (.int .i64 y)) (hc : Cur w g B a len cap) :
  Calls Tryz.prog 101 #[.pointer (some ⟨g, 0, none⟩), .slice (some ⟨gl, 0, none⟩) m m] w fun e w' => IntPost w g B a len cap e w' := by
 have HC : Hid (Cur w g B a len cap) := hc
 have HL : Hid (∀ j, j < m → ∃ y : Int, w.cell? ⟨gl, j, none⟩ = some (.int .i64 y)) := hl
 clear hc hl
 go_enter Tryz.func101, Tryz.ntmps101
 go_wp2_with fail
 refine (l01Below_any _ g B a len cap m (by omega) HC.out).mono ?_
 rintro e w1 ⟨x, rfl, x0, x1, hc1, hg1⟩
 have HC1 : Hid (Cur w1 g B a len cap) := hc1
 have HG : Hid (w.grownBy w1 (some g)) := hg1
 obtain ⟨j, rfl⟩ := Int.eq_ofNat_of_zero_le x0
 obtain ⟨y, hy⟩ := HL.out j (by omega)
 have c1 := hg1.cell hy (by simp; omega)
 have j1 : (j : Int) < (m : Int) := by omega
 clear hc1 hg1 hy
 go_wp2_with fail
 go_ret
 exact ⟨y, rfl, HC1.out, HG.out⟩
end Go.Proofs.YtakhagkhngmpaaaGreat
/- IntsA: . -/
namespace Go.Proofs.YtakhagkhngmpaaaGreat
set_option maxRecDepth 100000
open Go.RowKit
attribute [local go_sem ↓] Go.wp_at_zero Go.wp_at_succ
def ics (xs : List Int) : List Value := xs.map fun x => .int .i64 x
theorem ics_len (xs : List Int) : (ics xs).length = xs.length := by simp [ics]
theorem infoIntG : (Tryz.prog.info? 3).map (fun i => (i.zero, i.size, i.bytes)) = some (some (.int .i64 0), 1, 8) := by kernel_rfl
theorem gb_set' (w : World) (g i : Nat) (v : Value) : w.grownBy (w.setCell ⟨g, i, none⟩ v) (some g) :=
 ⟨rfl, rfl, rfl, by simp [World.setCell], fun k _ hk => Below.heap_setCell w ⟨g, i, none⟩ v k (fun e => hk (by rw [e]))⟩
theorem gb_two' {a b c : World} {g : Nat} (h : a.grownBy b (some g)) (k : b.grownBy c (some g)) : a.grownBy c (some g) :=
 ⟨k.os.trans h.os, k.tape.trans h.tape, k.output.trans h.output, Nat.le_trans h.size k.size, fun j hj hn => (k.block j (Nat.lt_of_lt_of_le hj h.size) hn).trans (h.block j hj hn)⟩
end Go.Proofs.YtakhagkhngmpaaaGreat
/- NestA: . -/
namespace Go.Proofs.YtakhagkhngmpaaaGreat
set_option maxRecDepth 100000
open Go.RowKit
structure Turned (w w' : World) (lo hi : Nat) : Prop where
 base : Below 0 w w'
 block : ∀ k, k < w.heap.size → (k < lo ∨ hi ≤ k) → w'.heap[k]? = w.heap[k]?
theorem Turned.refl (w : World) (lo hi : Nat) : Turned w w lo hi := ⟨Below.refl _ _, fun _ _ _ => rfl⟩
theorem Turned.trans {a b c : World} {lo hi : Nat} (h : Turned a b lo hi) (k : Turned b c lo hi) : Turned a c lo hi :=
 ⟨h.base.trans k.base, fun i hi' ho => (k.block i (Nat.lt_of_lt_of_le hi' h.base.size) ho).trans (h.block i hi' ho)⟩
theorem Turned.of_grown {w w' : World} {g lo hi : Nat} (h : w.grownBy w' (some g)) (h1 : lo ≤ g) (h2 : g < hi) : Turned w w' lo hi :=
 ⟨⟨h.os, h.tape, h.output, h.size, fun k hk => by omega⟩, fun k hk ho => h.block k hk (by intro e; cases e; omega)⟩
theorem Turned.wide {w w' : World} {lo hi lo' hi' : Nat} (h : Turned w w' lo hi) (h1 : lo' ≤ lo) (h2 : hi ≤ hi') : Turned w w' lo' hi' := ⟨h.base, fun k hk ho => h.block k hk (by omega)⟩
theorem Turned.below {w w' : World} {lo hi B : Nat} (h : Turned w w' lo hi) (h1 : B ≤ lo) (h2 : B ≤ w.heap.size) : Below B w w' :=
 ⟨h.base.os, h.base.tape, h.base.output, h.base.size, fun k hk => h.block k (by omega) (.inl (by omega))⟩
theorem Turned.size {w w' : World} {lo hi : Nat} (h : Turned w w' lo hi) : w.heap.size ≤ w'.heap.size := h.base.size
def RRow (w : World) (a : Option Addr) (L : List Value) (lo hi : Nat) : Prop :=
 0 < L.length → ∃ b off, a = some ⟨b, off, none⟩ ∧ lo ≤ b ∧ b < hi ∧ b < w.heap.size ∧ ∀ i v, L[i]? = some v → w.cell? ⟨b, off + i, none⟩ = some v
theorem RRow.crow {w : World} {a : Option Addr} {L : List Value} {lo hi : Nat} (h : RRow w a L lo hi) : CRow w a L := fun hp => by
 obtain ⟨b, off, e, _, _, h3, h4⟩ := h hp
 exact ⟨b, off, e, h3, h4⟩
theorem RRow.of_crow {w : World} {a : Option Addr} {L : List Value} (h : CRow w a L) : RRow w a L 0 w.heap.size := fun hp => by
 obtain ⟨b, off, e, h3, h4⟩ := h hp
 exact ⟨b, off, e, Nat.zero_le _, h3, h3, h4⟩
theorem RRow.turned {w w' : World} {a : Option Addr} {L : List Value} {lo hi lo' hi' : Nat} (h : RRow w a L lo hi) (t : Turned w w' lo' hi') (hd : hi ≤ lo' ∨ hi' ≤ lo) : RRow w' a L lo hi := fun hp => by
 obtain ⟨b, off, e, h1, h2, h3, h4⟩ := h hp
 exact ⟨b, off, e, h1, h2, Nat.lt_of_lt_of_le h3 t.size, fun i v hv => (World.cell?_of_block (a := ⟨b, off + i, none⟩) (t.block b h3 (by omega))).trans (h4 i v hv)⟩
theorem RRow.below {w w' : World} {a : Option Addr} {L : List Value} {lo hi : Nat} (h : RRow w a L lo hi) (hb : Below w.heap.size w w') : RRow w' a L lo hi := fun hp => by
 obtain ⟨b, off, e, h1, h2, h3, h4⟩ := h hp
 exact ⟨b, off, e, h1, h2, Nat.lt_of_lt_of_le h3 hb.size, fun i v hv => (hb.cell (p := ⟨b, off + i, none⟩) h3).trans (h4 i v hv)⟩
theorem RRow.wide {w : World} {a : Option Addr} {L : List Value} {lo hi lo' hi' : Nat} (h : RRow w a L lo hi) (h1 : lo' ≤ lo) (h2 : hi ≤ hi') : RRow w a L lo' hi' := fun hp => by
 obtain ⟨b, off, e, q1, q2, q3, q4⟩ := h hp
 exact ⟨b, off, e, by omega, by omega, q3, q4⟩
theorem RRow.of_wcells {w : World} {g lo hi : Nat} {L : List Value} (h : WCells w g L) (h1 : lo ≤ g) (h2 : g < hi) : RRow w (some ⟨g, 0, none⟩) L lo hi := fun _ => ⟨g, 0, rfl, h1, h2, h.1, fun i v hv => by rw [Nat.zero_add]; exact (h.2 i v hv).1⟩
theorem WCells.turned {w w' : World} {g lo hi : Nat} {L : List Value} (h : WCells w g L) (t : Turned w w' lo hi) (hd : g < lo ∨ hi ≤ g) : WCells w' g L :=
 ⟨Nat.lt_of_lt_of_le h.1 t.size, fun i v hv => ⟨(World.cell?_of_block (a := ⟨g, i, none⟩) (t.block g h.1 hd)).trans (h.2 i v hv).1, (World.frozen?_of_block (a := ⟨g, i, none⟩) (t.block g h.1 hd)).trans (h.2 i v hv).2⟩⟩
theorem WCells.apart {w w' : World} {g q : Nat} {L : List Value} (h : WCells w g L) (t : w.grownBy w' (some q)) (hd : g ≠ q) : WCells w' g L :=
 h.turned (Turned.of_grown (lo := q) (hi := q + 1) t (Nat.le_refl _) (by omega)) (by omega)
structure SR where
 loc : Option Addr
 row : List Int
 cap : Nat
instance : Inhabited SR := ⟨⟨none, [], 0⟩⟩
def srv (s : SR) : Value := .slice s.loc s.row.length s.cap
def svs (ss : List SR) : List Value := ss.map srv
def rws (ss : List SR) : List (List Int) := ss.map (·.row)
theorem svs_len (ss : List SR) : (svs ss).length = ss.length := by simp [svs]
theorem svs_get (ss : List SR) (i : Nat) (h : i < ss.length) : (svs ss)[i]? = some (srv ss[i]) := by simp [svs, h]
theorem rws_snoc (ss : List SR) (s : SR) : rws (ss ++ [s]) = rws ss ++ [s.row] := by simp [rws]
def MR (w : World) (a : Option Addr) (ss : List SR) (lo hi : Nat) : Prop := RRow w a (svs ss) lo hi ∧ ∀ s ∈ ss, RRow w s.loc (ics s.row) lo hi
theorem MR.turned {w w' : World} {a : Option Addr} {ss : List SR} {lo hi lo' hi' : Nat} (h : MR w a ss lo hi) (t : Turned w w' lo' hi') (hd : hi ≤ lo' ∨ hi' ≤ lo) : MR w' a ss lo hi := ⟨h.1.turned t hd, fun s hs => (h.2 s hs).turned t hd⟩
theorem MR.below {w w' : World} {a : Option Addr} {ss : List SR} {lo hi : Nat} (h : MR w a ss lo hi) (hb : Below w.heap.size w w') : MR w' a ss lo hi := ⟨h.1.below hb, fun s hs => (h.2 s hs).below hb⟩
theorem MR.wide {w : World} {a : Option Addr} {ss : List SR} {lo hi lo' hi' : Nat} (h : MR w a ss lo hi) (h1 : lo' ≤ lo) (h2 : hi ≤ hi') : MR w a ss lo' hi' := ⟨h.1.wide h1 h2, fun s hs => (h.2 s hs).wide h1 h2⟩
theorem MR.nil (w : World) (a : Option Addr) (lo hi : Nat) : MR w a [] lo hi := ⟨fun h => by simp [svs] at h, by simp⟩
theorem MR.at {w : World} {a : Option Addr} {ss : List SR} {lo hi : Nat} (h : MR w a ss lo hi) (hp : 0 < ss.length) : ∃ b off, a = some ⟨b, off, none⟩ ∧ b < w.heap.size ∧ ∀ i (hi : i < ss.length), w.cell? ⟨b, off + i, none⟩ = some (srv ss[i]) := by
 obtain ⟨b, off, e, _, _, h3, h4⟩ := h.1 (by rw [svs_len]; exact hp)
 exact ⟨b, off, e, h3, fun i hi => h4 i _ (svs_get ss i hi)⟩
structure MW (w : World) (g : Nat) (ss : List SR) (lo hi : Nat) : Prop where
 out : WCells w g (svs ss)
 glo : lo ≤ g
 ghi : g < hi
 rows : ∀ s ∈ ss, ∃ b, s.loc = some ⟨b, 0, none⟩ ∧ lo ≤ b ∧ b < hi ∧ b ≠ g ∧ WCells w b (ics s.row) ∧ s.row.length ≤ s.cap
 apart : (ss.map SR.loc).Nodup
theorem MW.turned {w w' : World} {g : Nat} {ss : List SR} {lo hi lo' hi' : Nat} (h : MW w g ss lo hi) (t : Turned w w' lo' hi') (hd : hi ≤ lo' ∨ hi' ≤ lo) : MW w' g ss lo hi :=
 ⟨h.out.turned t (by have := h.glo; have := h.ghi; omega), h.glo, h.ghi, fun s hs => by
  obtain ⟨b, e, h1, h2, h3, h4, h5⟩ := h.rows s hs
  exact ⟨b, e, h1, h2, h3, h4.turned t (by omega), h5⟩, h.apart⟩
theorem MW.below {w w' : World} {g : Nat} {ss : List SR} {lo hi : Nat} (h : MW w g ss lo hi) (hb : Below w.heap.size w w') : MW w' g ss lo hi :=
 ⟨h.out.below hb h.out.1, h.glo, h.ghi, fun s hs => by
  obtain ⟨b, e, h1, h2, h3, h4, h5⟩ := h.rows s hs
  exact ⟨b, e, h1, h2, h3, h4.below hb h4.1, h5⟩, h.apart⟩
theorem MW.wide {w : World} {g : Nat} {ss : List SR} {lo hi lo' hi' : Nat} (h : MW w g ss lo hi) (h1 : lo' ≤ lo) (h2 : hi ≤ hi') : MW w g ss lo' hi' :=
 ⟨h.out, Nat.le_trans h1 h.glo, Nat.lt_of_lt_of_le h.ghi h2, fun s hs => by
  obtain ⟨b, e, q1, q2, q3, q4, q5⟩ := h.rows s hs
  exact ⟨b, e, by omega, by omega, q3, q4, q5⟩, h.apart⟩
def MAns (w : World) (v : Value) (X : List (List Int)) (lo hi : Nat) : Prop :=
 ∃ (a : Option Addr) (cap : Nat) (ss : List SR), v = .slice a ss.length cap ∧ rws ss = X ∧ ss.length ≤ cap ∧ (ss = [] ∨ ∃ g, a = some ⟨g, 0, none⟩ ∧ MW w g ss lo hi)
theorem MAns.empty (w : World) (a : Option Addr) (cap lo hi : Nat) : MAns w (.slice a 0 cap) [] lo hi := ⟨a, cap, [], rfl, rfl, Nat.zero_le _, .inl rfl⟩
structure NK (R : Type) where
 enc : R → List Value
 sz : Nat
 len : ∀ r, (enc r).length = sz
 loc : R → Option Addr
 inn : R → List Value
def NK.cells {R : Type} (K : NK R) (rs : List R) : List Value := rs.flatMap K.enc
theorem NK.cells_len {R : Type} (K : NK R) (rs : List R) : (K.cells rs).length = rs.length * K.sz := flat_len K.len rs
theorem NK.cells_get {R : Type} (K : NK R) (rs : List R) (j : Nat) (h : j < rs.length) (i : Nat) (hi : i < K.sz) : (K.cells rs)[j * K.sz + i]? = (K.enc rs[j])[i]? := flat_get K.len rs j h i hi
def GR {R : Type} (K : NK R) (w : World) (a : Option Addr) (rs : List R) (lo hi : Nat) : Prop := RRow w a (K.cells rs) lo hi ∧ ∀ r ∈ rs, RRow w (K.loc r) (K.inn r) lo hi
theorem GR.turned {R : Type} {K : NK R} {w w' : World} {a : Option Addr} {rs : List R} {lo hi lo' hi' : Nat} (h : GR K w a rs lo hi) (t : Turned w w' lo' hi') (hd : hi ≤ lo' ∨ hi' ≤ lo) : GR K w' a rs lo hi := ⟨h.1.turned t hd, fun r hr => (h.2 r hr).turned t hd⟩
theorem GR.below {R : Type} {K : NK R} {w w' : World} {a : Option Addr} {rs : List R} {lo hi : Nat} (h : GR K w a rs lo hi) (hb : Below w.heap.size w w') : GR K w' a rs lo hi := ⟨h.1.below hb, fun r hr => (h.2 r hr).below hb⟩
theorem GR.wide {R : Type} {K : NK R} {w : World} {a : Option Addr} {rs : List R} {lo hi lo' hi' : Nat} (h : GR K w a rs lo hi) (h1 : lo' ≤ lo) (h2 : hi ≤ hi') : GR K w a rs lo' hi' := ⟨h.1.wide h1 h2, fun r hr => (h.2 r hr).wide h1 h2⟩
theorem GR.nil {R : Type} (K : NK R) (w : World) (a : Option Addr) (lo hi : Nat) : GR K w a [] lo hi := ⟨fun h => by simp [NK.cells] at h, by simp⟩
theorem GR.at {R : Type} {K : NK R} {w : World} {a : Option Addr} {rs : List R} {lo hi : Nat} (h : GR K w a rs lo hi) (hp : 0 < rs.length) (hz : 0 < K.sz) :
  ∃ b off, a = some ⟨b, off, none⟩ ∧ b < w.heap.size ∧ ∀ j (hj : j < rs.length) i v, (K.enc rs[j])[i]? = some v → w.cell? ⟨b, off + (j * K.sz + i), none⟩ = some v := by
 obtain ⟨b, off, e, _, _, h3, h4⟩ := h.1 (by rw [K.cells_len]; exact Nat.mul_pos hp hz)
 refine ⟨b, off, e, h3, fun j hj i v hv => h4 _ v ?_⟩
 have hi : i < K.sz := by have := (List.getElem?_eq_some_iff.1 hv).1; rw [K.len] at this; exact this
 rw [K.cells_get rs j hj i hi]; exact hv
structure GW {R : Type} (K : NK R) (w : World) (g : Nat) (rs : List R) (lo hi : Nat) : Prop where
 out : WCells w g (K.cells rs)
 glo : lo ≤ g
 ghi : g < hi
 rows : ∀ r ∈ rs, K.inn r = [] ∨ ∃ b, K.loc r = some ⟨b, 0, none⟩ ∧ lo ≤ b ∧ b < hi ∧ b ≠ g ∧ WCells w b (K.inn r)
 apart : rs.Pairwise fun r s => K.inn r ≠ [] → K.inn s ≠ [] → K.loc r ≠ K.loc s
theorem GW.gr {R : Type} {K : NK R} {w : World} {g : Nat} {rs : List R} {lo hi : Nat} (h : GW K w g rs lo hi) : GR K w (some ⟨g, 0, none⟩) rs lo hi :=
 ⟨RRow.of_wcells h.out h.glo h.ghi, fun r hr => by
  rcases h.rows r hr with e | ⟨b, e, h1, h2, _, h3⟩
  ·rw [e]; intro hp; simp at hp
  ·rw [e]; exact RRow.of_wcells h3 h1 h2⟩
theorem GW.turned {R : Type} {K : NK R} {w w' : World} {g : Nat} {rs : List R} {lo hi lo' hi' : Nat} (h : GW K w g rs lo hi) (t : Turned w w' lo' hi') (hd : hi ≤ lo' ∨ hi' ≤ lo) : GW K w' g rs lo hi :=
 ⟨h.out.turned t (by have := h.glo; have := h.ghi; omega), h.glo, h.ghi, fun r hr => by
  rcases h.rows r hr with e | ⟨b, e, h1, h2, h3, h4⟩
  ·exact .inl e
  ·exact .inr ⟨b, e, h1, h2, h3, h4.turned t (by omega)⟩, h.apart⟩
theorem GW.below {R : Type} {K : NK R} {w w' : World} {g : Nat} {rs : List R} {lo hi : Nat} (h : GW K w g rs lo hi) (hb : Below w.heap.size w w') : GW K w' g rs lo hi :=
 ⟨h.out.below hb h.out.1, h.glo, h.ghi, fun r hr => by
  rcases h.rows r hr with e | ⟨b, e, h1, h2, h3, h4⟩
  ·exact .inl e
  ·exact .inr ⟨b, e, h1, h2, h3, h4.below hb h4.1⟩, h.apart⟩
theorem GW.wide {R : Type} {K : NK R} {w : World} {g : Nat} {rs : List R} {lo hi lo' hi' : Nat} (h : GW K w g rs lo hi) (h1 : lo' ≤ lo) (h2 : hi ≤ hi') : GW K w g rs lo' hi' :=
 ⟨h.out, Nat.le_trans h1 h.glo, Nat.lt_of_lt_of_le h.ghi h2, fun r hr => by
  rcases h.rows r hr with e | ⟨b, e, q1, q2, q3, q4⟩
  ·exact .inl e
  ·exact .inr ⟨b, e, by omega, by omega, q3, q4⟩, h.apart⟩
theorem WCells.setW_other {w : World} {g b : Nat} {L : List Value} (h : WCells w b L) (hne : b ≠ g) (off : Nat) (vs : List Value) : WCells (Go.Proofs.YtakhagkhngmpaaaGreat.setW w g off vs) b L := by
 induction vs generalizing w off with
 | nil => exact h
 | cons v vs ih => exact ih (h.other ⟨g, off, none⟩ v hne) _
theorem GW.put {R : Type} {K : NK R} {w : World} {g : Nat} {rs : List R} {lo hi : Nat} (h : GW K w g rs lo hi) (j : Nat) (hj : j < rs.length) (r : R) (hr : K.inn r = [] ∨ ∃ b, K.loc r = some ⟨b, 0, none⟩ ∧ lo ≤ b ∧ b < hi ∧ b ≠ g ∧ WCells w b (K.inn r))
  (hap : ∀ s ∈ rs, K.inn s ≠ [] → K.inn r ≠ [] → K.loc s ≠ K.loc r) : GW K (Go.Proofs.YtakhagkhngmpaaaGreat.setW w g (j * K.sz) (K.enc r)) g (rs.set j r) lo hi := by
 refine ⟨h.out.setElem K.len j hj r, h.glo, h.ghi, fun s hs => ?_, ?_⟩
 ·rcases List.mem_or_eq_of_mem_set hs with q | q
  ·rcases h.rows s q with e | ⟨b, e, q1, q2, q3, q4⟩
   ·exact .inl e
   ·exact .inr ⟨b, e, q1, q2, q3, q4.setW_other q3 _ _⟩
  ·subst q
   rcases hr with e | ⟨b, e, q1, q2, q3, q4⟩
   ·exact .inl e
   ·exact .inr ⟨b, e, q1, q2, q3, q4.setW_other q3 _ _⟩
 ·have ha := List.pairwise_iff_getElem.1 h.apart
  refine List.pairwise_iff_getElem.2 (fun a b ha' hb' hab h1 h2 => ?_)
  rw [List.length_set] at ha' hb'
  rw [List.getElem_set] at h1 ⊢
  rw [List.getElem_set] at h2 ⊢
  by_cases ea : j = a
  ·by_cases eb : j = b
   ·omega
   ·rw [if_pos ea] at h1 ⊢
    rw [if_neg eb] at h2 ⊢
    exact (hap _ (List.getElem_mem hb') h2 h1).symm
  ·rw [if_neg ea] at h1 ⊢
   by_cases eb : j = b
   ·rw [if_pos eb] at h2 ⊢
    exact hap _ (List.getElem_mem ha') h1 h2
   ·rw [if_neg eb] at h2 ⊢
    exact ha a b ha' hb' hab h1 h2
theorem body_shade {P : Program} {f : Func} {R : Ending → World → Prop} {x : Exit} {a : Act} {W : World} (p : World → Prop) (h : p W) (k : ∀ W', p W' → bodyPost P f R x a W') : bodyPost P f R x a W := k W h
theorem wp_shade {P : Program} {c : Code} {Q : Exit → Act → World → Prop} {a : Act} {W : World} (p : World → Prop) (h : p W) (k : ∀ W', p W' → Code.wp P c Q a W') : Code.wp P c Q a W := k W h
structure PM where
 group : Int
 len : Int
instance : Inhabited PM := ⟨⟨0, 0⟩⟩
abbrev pv (p : PM) : Value := .agg #[.int .i64 p.group, .int .i64 p.len]
def pcells (p : PM) : List Value := [.int .i64 p.group, .int .i64 p.len]
theorem pcells_len (p : PM) : (pcells p).length = 2 := rfl
def pcs (ps : List PM) : List Value := ps.flatMap pcells
theorem pcs_len (ps : List PM) : (pcs ps).length = ps.length * 2 := flat_len pcells_len ps
theorem pcs_nil {ps : List PM} : pcs ps = [] ↔ ps = [] := by
 cases ps with
 | nil => simp [pcs]
 | cons p ps => simp [pcs, pcells]
structure NM where
 id : Int
 parent : Int
 name : ByteArray
 dir : Bool
 schema : Int
 quota : Int
 len : Int
 pieces : List PM
 writer : Int
instance : Inhabited NM := ⟨⟨0, 0, ⟨#[]⟩, false, 0, 0, 0, [], 0⟩⟩
structure NR where
 nd : NM
 loc : Option Addr
 cap : Nat
instance : Inhabited NR := ⟨⟨default, none, 0⟩⟩
abbrev nv (r : NR) : Value := .agg #[.int .i64 r.nd.id, .int .i64 r.nd.parent, .string r.nd.name, .bool r.nd.dir, .int .i64 r.nd.schema, .int .i64 r.nd.quota, .int .i64 r.nd.len, .slice r.loc r.nd.pieces.length r.cap, .int .i64 r.nd.writer]
def ncells (r : NR) : List Value := [.int .i64 r.nd.id, .int .i64 r.nd.parent, .string r.nd.name, .bool r.nd.dir, .int .i64 r.nd.schema, .int .i64 r.nd.quota, .int .i64 r.nd.len, .slice r.loc r.nd.pieces.length r.cap, .int .i64 r.nd.writer]
theorem ncells_len (r : NR) : (ncells r).length = 9 := rfl
abbrev NKind : NK NR := ⟨ncells, 9, ncells_len, NR.loc, fun r => pcs r.nd.pieces⟩
def ncs (rs : List NR) : List Value := rs.flatMap ncells
theorem ncs_len (rs : List NR) : (ncs rs).length = rs.length * 9 := flat_len ncells_len rs
def nds (rs : List NR) : List NM := rs.map NR.nd
theorem nds_len (rs : List NR) : (nds rs).length = rs.length := by simp [nds]
theorem nds_snoc (rs : List NR) (r : NR) : nds (rs ++ [r]) = nds rs ++ [r.nd] := by simp [nds]
structure TM where
 nodes : List NM
 next : Int
def NAt (w : World) (b o : Nat) (r : NR) : Prop :=
 w.cell? ⟨b, o, none⟩ = some (.int .i64 r.nd.id) ∧ w.cell? ⟨b, o + 1, none⟩ = some (.int .i64 r.nd.parent) ∧ w.cell? ⟨b, o + 2, none⟩ = some (.string r.nd.name) ∧ w.cell? ⟨b, o + 3, none⟩ = some (.bool r.nd.dir) ∧ w.cell? ⟨b, o + 4, none⟩ = some (.int .i64 r.nd.schema) ∧ w.cell? ⟨b, o + 5, none⟩ = some (.int .i64 r.nd.quota) ∧ w.cell? ⟨b, o + 6, none⟩ = some (.int .i64 r.nd.len) ∧ w.cell? ⟨b, o + 7, none⟩ = some (.slice r.loc r.nd.pieces.length r.cap) ∧ w.cell? ⟨b, o + 8, none⟩ = some (.int .i64 r.nd.writer)
abbrev TR (w : World) (a : Option Addr) (rs : List NR) (lo hi : Nat) : Prop := GR NKind w a rs lo hi
abbrev TW (w : World) (g : Nat) (rs : List NR) (lo hi : Nat) : Prop := GW NKind w g rs lo hi
theorem TR.nat {w : World} {a : Option Addr} {rs : List NR} {lo hi : Nat} (h : TR w a rs lo hi) (hp : 0 < rs.length) : ∃ b off, a = some ⟨b, off, none⟩ ∧ b < w.heap.size ∧ ∀ j (hj : j < rs.length), NAt w b (off + j * 9) rs[j] := by
 obtain ⟨b, off, e, hb, hc⟩ := h.at hp (by decide)
 refine ⟨b, off, e, hb, fun j hj => ?_⟩
 have hcc : ∀ i v, (ncells rs[j])[i]? = some v → w.cell? ⟨b, off + j * 9 + i, none⟩ = some v := fun i v hv => by
  have := hc j hj i v hv
  rw [← Nat.add_assoc] at this
  exact this
 exact ⟨hcc 0 _ rfl, hcc 1 _ rfl, hcc 2 _ rfl, hcc 3 _ rfl, hcc 4 _ rfl, hcc 5 _ rfl, hcc 6 _ rfl, hcc 7 _ rfl, hcc 8 _ rfl⟩
theorem NAt.below {w w' : World} {b o : Nat} {r : NR} (h : NAt w b o r) (hb : Below w.heap.size w w') (hl : b < w.heap.size) : NAt w' b o r := by
 obtain ⟨h0, h1, h2, h3, h4, h5, h6, h7, h8⟩ := h
 have k : ∀ i v, w.cell? ⟨b, i, none⟩ = some v → w'.cell? ⟨b, i, none⟩ = some v := fun i v hv => (hb.cell (p := ⟨b, i, none⟩) hl).trans hv
 exact ⟨k _ _ h0, k _ _ h1, k _ _ h2, k _ _ h3, k _ _ h4, k _ _ h5, k _ _ h6, k _ _ h7, k _ _ h8⟩
theorem pcs_at {w : World} {a : Option Addr} {ps : List PM} {lo hi : Nat} (h : RRow w a (pcs ps) lo hi) (hp : 0 < ps.length) : ∃ b off, a = some ⟨b, off, none⟩ ∧ b < w.heap.size ∧ ∀ j (hj : j < ps.length), w.cell? ⟨b, off + j * 2, none⟩ = some (.int .i64 ps[j].group) ∧ w.cell? ⟨b, off + j * 2 + 1, none⟩ = some (.int .i64 ps[j].len) := by
 obtain ⟨b, off, e, _, _, hb, hc⟩ := h (by rw [pcs_len]; omega)
 exact ⟨b, off, e, hb, fun j hj => ⟨hc (j * 2) _ (flat_get pcells_len ps j hj 0 (by omega)), hc (j * 2 + 1) _ (flat_get pcells_len ps j hj 1 (by omega))⟩⟩
def TSee (w : World) (v : Value) (T : TM) (lo hi : Nat) : Prop := ∃ (a : Option Addr) (cap : Nat) (rs : List NR), v = .agg #[.slice a rs.length cap, .int .i64 T.next] ∧ nds rs = T.nodes ∧ TR w a rs lo hi
def TAns (w : World) (v : Value) (T : TM) (lo hi : Nat) : Prop := ∃ (a : Option Addr) (cap : Nat) (rs : List NR), v = .agg #[.slice a rs.length cap, .int .i64 T.next] ∧ nds rs = T.nodes ∧ rs.length ≤ cap ∧ (rs = [] ∨ ∃ g, a = some ⟨g, 0, none⟩ ∧ TW w g rs lo hi)
theorem TAns.see {w : World} {v : Value} {T : TM} {lo hi : Nat} (h : TAns w v T lo hi) : TSee w v T lo hi := by
 obtain ⟨a, cap, rs, e, hr, _, h1⟩ := h
 refine ⟨a, cap, rs, e, hr, ?_⟩
 rcases h1 with rfl | ⟨g, rfl, hm⟩
 ·exact GR.nil _ _ _ _ _
 ·exact hm.gr
theorem TSee.turned {w w' : World} {v : Value} {T : TM} {lo hi lo' hi' : Nat} (h : TSee w v T lo hi) (t : Turned w w' lo' hi') (hd : hi ≤ lo' ∨ hi' ≤ lo) : TSee w' v T lo hi := by
 obtain ⟨a, cap, rs, e, hr, h1⟩ := h
 exact ⟨a, cap, rs, e, hr, h1.turned t hd⟩
theorem TSee.below {w w' : World} {v : Value} {T : TM} {lo hi : Nat} (h : TSee w v T lo hi) (hb : Below w.heap.size w w') : TSee w' v T lo hi := by
 obtain ⟨a, cap, rs, e, hr, h1⟩ := h
 exact ⟨a, cap, rs, e, hr, h1.below hb⟩
theorem TSee.wide {w : World} {v : Value} {T : TM} {lo hi lo' hi' : Nat} (h : TSee w v T lo hi) (h1 : lo' ≤ lo) (h2 : hi ≤ hi') : TSee w v T lo' hi' := by
 obtain ⟨a, cap, rs, e, hr, q⟩ := h
 exact ⟨a, cap, rs, e, hr, q.wide h1 h2⟩
theorem TAns.turned {w w' : World} {v : Value} {T : TM} {lo hi lo' hi' : Nat} (h : TAns w v T lo hi) (t : Turned w w' lo' hi') (hd : hi ≤ lo' ∨ hi' ≤ lo) : TAns w' v T lo hi := by
 obtain ⟨a, cap, rs, e, hr, hc, h1⟩ := h
 refine ⟨a, cap, rs, e, hr, hc, ?_⟩
 rcases h1 with rfl | ⟨g, rfl, hm⟩
 ·exact .inl rfl
 ·exact .inr ⟨g, rfl, hm.turned t hd⟩
theorem TAns.below {w w' : World} {v : Value} {T : TM} {lo hi : Nat} (h : TAns w v T lo hi) (hb : Below w.heap.size w w') : TAns w' v T lo hi := by
 obtain ⟨a, cap, rs, e, hr, hc, h1⟩ := h
 refine ⟨a, cap, rs, e, hr, hc, ?_⟩
 rcases h1 with rfl | ⟨g, rfl, hm⟩
 ·exact .inl rfl
 ·exact .inr ⟨g, rfl, hm.below hb⟩
def TrPost (T : TM) (w : World) (e : Ending) (w' : World) : Prop := ∃ v, e = .returned v ∧ TAns w' v T w.heap.size w'.heap.size ∧ Below w.heap.size w w'
def nsum : List NM → Nat
 | [] => 0
 | n :: ns => n.name.size + n.pieces.length + nsum ns
theorem nsum_mem {ns : List NM} {n : NM} (h : n ∈ ns) : n.name.size + n.pieces.length ≤ nsum ns := by
 induction ns with
 | nil => simp at h
 | cons x ns ih =>
  rcases List.mem_cons.1 h with rfl | h
  ·simp only [nsum]; omega
  ·have := ih h; simp only [nsum]; omega
def NFit (T : TM) : Prop := T.nodes.length + nsum T.nodes ≤ 1048576
end Go.Proofs.YtakhagkhngmpaaaGreat
/- SchZ: . -/
namespace Go.Proofs.YtakhagkhngmpaaaGreat
set_option maxRecDepth 100000
open Go.RowKit
attribute [local go_sem ↓] Go.wp_at_zero Go.wp_at_succ
def schK (s : Int) : Nat := if s = 1 then 2 else if s = 2 then 3 else if s = 3 then 4 else 0
def schM (s : Int) : Nat := if s = 1 then 1 else if s = 2 then 2 else if s = 3 then 2 else 0
def schOk (s : Int) : Bool := decide (s = 1) || decide (s = 2) || decide (s = 3)
theorem sch_cases {s : Int} (h : schOk s = true) : s = 1 ∨ s = 2 ∨ s = 3 := by
 unfold schOk at h
 simp only [Bool.or_eq_true, decide_eq_true_eq] at h
 omega
theorem sch_no {s : Int} (h : schOk s = false) : s ≠ 1 ∧ s ≠ 2 ∧ s ≠ 3 := by
 unfold schOk at h
 simp only [Bool.or_eq_false_iff, decide_eq_false_iff_not] at h
 omega
theorem sch_bounds {s : Int} (h : schOk s = true) : 2 ≤ schK s ∧ schK s ≤ 4 ∧ 1 ≤ schM s ∧ schM s ≤ 2 := by
 rcases sch_cases h with rfl | rfl | rfl <;> decide
theorem sch_zero {s : Int} (h : schOk s = false) : schK s = 0 ∧ schM s = 0 := by
 obtain ⟨h1, h2, h3⟩ := sch_no h
 unfold schK schM
 rw [if_neg h1, if_neg h2, if_neg h3, if_neg h1, if_neg h2, if_neg h3]
 exact ⟨rfl, rfl⟩
def SchPost (s : Int) (w : World) (e : Ending) (w' : World) : Prop := e = .returned (.tuple #[.int .i64 (schK s : Nat), .int .i64 (schM s : Nat), .bool (schOk s)]) ∧ w' = w
theorem specSchema (s : Int) (w : World) : Calls Tryz.prog 127 #[.int .i64 s] w fun e w' => SchPost s w e w' := by
 cases h : schOk s with
 | true =>
  obtain rfl | rfl | rfl := sch_cases h
  all_goals
   clear h
   go_enter Tryz.func127, Tryz.ntmps127
   go_wp2_with fail
   go_ret3
   exact ⟨rfl, rfl⟩
 | false =>
  obtain ⟨h1, h2, h3⟩ := sch_no h
  obtain ⟨e1, e2⟩ := sch_zero h
  unfold SchPost
  rw [e1, e2, h]
  clear h e1 e2
  go_enter Tryz.func127, Tryz.ntmps127
  go_wp2_with fail
  go_ret3
  exact ⟨rfl, rfl⟩
end Go.Proofs.YtakhagkhngmpaaaGreat
/- Words: . -/
namespace Go.Proofs.YtakhagkhngmpaaaGreat.W
def vtF : Nat → Nat → List UInt8
 | 0, n => [UInt8.ofNat n]
 | f + 1, n => if 127 < n then UInt8.ofNat (n % 128 + 128) :: vtF f (n / 128) else [UInt8.ofNat n]
def vt (n : Nat) : List UInt8 := vtF n n
def val : List UInt8 → Nat
 | [] => 0
 | b :: l => b.toNat % 128 + 128 * val l
def rv : Nat → Nat → Bool → List UInt8 → Nat → Option (Nat × Nat)
 | _, _, _, [], _ => none
 | n, w, first, b :: l, p =>
  if 1000000000 < w then none
  else if 127 < b.toNat then rv (n + (b.toNat - 128) * w) (w * 128) false l (p + 1)
  else if b.toNat = 0 ∧ first = false then none
  else if 1000000000 < n + b.toNat * w then none
  else some (n + b.toNat * w, p + 1)
end Go.Proofs.YtakhagkhngmpaaaGreat.W
/- VarL: . -/
namespace Go.Proofs.YtakhagkhngmpaaaGreat
set_option maxRecDepth 100000
open Go.RowKit
theorem l01In_any (x a b : Int) (w : World) :
  Calls Tryz.prog 61 #[.int .i64 x, .int .i64 a, .int .i64 b] w fun e w' => e = .returned (.bool (decide (a ≤ x) && decide (x ≤ b))) ∧ w' = w := by
 by_cases h : a ≤ x
 ·by_cases h' : x ≤ b
  ·go_enter Tryz.func61, Tryz.ntmps61
   go_wp2
   go_ret
   exact ⟨by simp [h, h'], rfl⟩
  ·go_enter Tryz.func61, Tryz.ntmps61
   go_wp2
   go_ret
   exact ⟨by simp [h'], rfl⟩
 ·go_enter Tryz.func61, Tryz.ntmps61
  go_wp2
  go_ret
  exact ⟨by simp; omega, rfl⟩
end Go.Proofs.YtakhagkhngmpaaaGreat
/- SpnA: . -/
namespace Go.Proofs.YtakhagkhngmpaaaGreat
set_option maxRecDepth 100000
open Go.RowKit
attribute [local go_sem ↓] Go.wp_at_zero Go.wp_at_succ
theorem isIn (x a b : Int) (w : World) (r : Bool) (h : (decide (a ≤ x) && decide (x ≤ b)) = r) : Calls Tryz.prog 61 #[.int .i64 x, .int .i64 a, .int .i64 b] w fun e w' => e = .returned (.bool r) ∧ w' = w := by
 rw [← h]; exact l01In_any x a b w
def groupN (s : Int) : Nat := schK s * 8
theorem groupN_bounds (s : Int) : groupN s ≤ 32 := by
 unfold groupN
 cases h : schOk s with
 | true => have := (sch_bounds h).2.1; omega
 | false => rw [(sch_zero h).1]; omega
theorem specGroupSize (s : Int) (w : World) : Calls Tryz.prog 93 #[.int .i64 s] w fun e w' => e = .returned (.int .i64 (groupN s : Nat)) ∧ w' = w := by
 have HS := Shut.mk (fun W => specSchema s W)
 unfold SchPost at HS
 have hk : schK s ≤ 4 := by
  cases h : schOk s with
  | true => exact (sch_bounds h).2.1
  | false => rw [(sch_zero h).1]; omega
 have hg : ((groupN s : Nat) : Int) = (schK s : Int) * 4 * 2 := by unfold groupN; push_cast; omega
 generalize schOk s = ok at *
 generalize schM s = m at *
 generalize schK s = k at *
 have HG := Shut.mk hg
 clear hg
 go_enter Tryz.func93, Tryz.ntmps93
 go_wp2_with fail
 refine (HS.out _).mono ?_
 rintro e w1 ⟨rfl, rfl⟩
 go_wp2_with fail
 go_ret
 exact ⟨by rw [HG.out]; first | rfl | (simp; done) | (congr 2; omega), rfl⟩
theorem in_bool {a x b : Int} {r : Bool} (h : (decide (a ≤ x) && decide (x ≤ b)) = r) : r = true ↔ a ≤ x ∧ x ≤ b := by rw [← h]; simp
end Go.Proofs.YtakhagkhngmpaaaGreat
/- PathM: . -/
namespace Go.Proofs.YtakhagkhngmpaaaGreat
set_option maxRecDepth 100000
open Go.PlainAid (bt)
def nameC (c : UInt8) : Bool := (decide (97 ≤ c.toNat) && decide (c.toNat ≤ 122)) || (decide (48 ≤ c.toNat) && decide (c.toNat ≤ 57))
def nameL (l : List UInt8) : Bool := l.all nameC && (decide (1 ≤ l.length) && decide (l.length ≤ 8))
theorem nameC_slash {c : UInt8} (h : nameC c = true) : c ≠ 47 := by
 intro e; subst e; exact absurd h (by decide)
theorem nameL_slash {l : List UInt8} (h : nameL l = true) : ∀ c ∈ l, c ≠ 47 := fun c hc => by
 unfold nameL at h
 rw [Bool.and_eq_true, List.all_eq_true] at h
 exact nameC_slash (h.1 c hc)
theorem nameL_pos {l : List UInt8} (h : nameL l = true) : 1 ≤ l.length ∧ l.length ≤ 8 := by
 unfold nameL at h
 simp only [Bool.and_eq_true, decide_eq_true_eq] at h
 exact h.2
def segs : List UInt8 → List (List UInt8)
 | [] => [[]]
 | c :: r => if c = 47 then [] :: segs r else match segs r with
  | [] => [[c]]
  | h :: t => (c :: h) :: t
theorem segs_ne : ∀ l, segs l ≠ []
 | [] => by simp [segs]
 | c :: r => by
  unfold segs
  split
  ·simp
  ·split <;> simp
theorem segs_none : ∀ (l : List UInt8), (∀ c ∈ l, c ≠ 47) → segs l = [l]
 | [], _ => rfl
 | c :: r, h => by
  unfold segs
  rw [if_neg (h c (by simp)), segs_none r (fun x hx => h x (by simp [hx]))]
theorem segs_cons {c : UInt8} {r x : List UInt8} {t : List (List UInt8)} (h : c ≠ 47) (e : segs r = x :: t) : segs (c :: r) = (c :: x) :: t := by
 unfold segs
 rw [if_neg h, e]
theorem segs_cut : ∀ (a r : List UInt8), (∀ c ∈ a, c ≠ 47) → segs (a ++ 47 :: r) = a :: segs r
 | [], r, _ => by simp [segs]
 | c :: a, r, h => by
  exact segs_cons (h c (by simp)) (segs_cut a r (fun x hx => h x (by simp [hx])))
theorem segs_back : ∀ (l : List UInt8), ((segs l).map (47 :: ·)).flatten = 47 :: l
 | [] => rfl
 | c :: r => by
  have ih := segs_back r
  unfold segs
  split
  ·rename_i e; subst e
   simp only [List.map_cons, List.flatten_cons, ih]; rfl
  ·cases h : segs r with
   | nil => exact absurd h (segs_ne r)
   | cons x t =>
    rw [h] at ih
    simp only [List.map_cons, List.flatten_cons, List.cons_append] at ih ⊢
    rw [List.cons.injEq] at ih
    rw [ih.2]
def splitP : List UInt8 → List (List UInt8) × Bool
 | [] => ([], false)
 | c :: r => if c = 47 then (if r = [] then ([], true) else if (segs r).all nameL = true ∧ (segs r).length ≤ 4 then (segs r, true) else ([], false)) else ([], false)
def joinP (L : List (List UInt8)) : List UInt8 := if L = [] then [47] else (L.map (47 :: ·)).flatten
theorem join_split {p : List UInt8} (h : (splitP p).2 = true) : joinP (splitP p).1 = p := by
 unfold splitP at h ⊢
 cases p with
 | nil => cases h
 | cons c r =>
  simp only at h ⊢
  by_cases hc : c = 47
  ·subst hc
   rw [if_pos rfl] at h ⊢
   by_cases hr : r = []
   ·subst hr; rfl
   ·rw [if_neg hr] at h ⊢
    by_cases hq : (segs r).all nameL = true ∧ (segs r).length ≤ 4
    ·rw [if_pos hq]
     show joinP (segs r) = 47 :: r
     unfold joinP
     rw [if_neg (segs_ne r), segs_back]
    ·rw [if_neg hq] at h; cases h
  ·rw [if_neg hc] at h; cases h
theorem segs_join : ∀ (x : List UInt8) (L : List (List UInt8)), (∀ l ∈ x :: L, nameL l = true) → segs (x ++ (L.map (47 :: ·)).flatten) = x :: L
 | x, [], h => by
  rw [List.map_nil, List.flatten_nil, List.append_nil]
  exact segs_none x (nameL_slash (h x (by simp)))
 | x, y :: L, h => by
  rw [List.map_cons, List.flatten_cons, List.cons_append, segs_cut x _ (nameL_slash (h x (by simp))), segs_join y L (fun l hl => h l (by simp at hl ⊢; exact .inr hl))]
theorem split_join {L : List (List UInt8)} (h : ∀ l ∈ L, nameL l = true) (h4 : L.length ≤ 4) : splitP (joinP L) = (L, true) := by
 cases L with
 | nil => rfl
 | cons x L =>
  have e : joinP (x :: L) = 47 :: (x ++ (L.map (47 :: ·)).flatten) := by unfold joinP; rw [if_neg (by simp)]; rfl
  rw [e]
  unfold splitP
  have hx := (nameL_pos (h x (by simp))).1
  have hne : x ++ (L.map (47 :: ·)).flatten ≠ [] := fun e => by
   have := congrArg List.length e
   rw [List.length_append] at this
   simp at this
   rw [this.1] at hx
   simp at hx
  simp only
  rw [if_pos trivial, if_neg hne, segs_join x L h, if_pos ⟨by rw [List.all_eq_true]; exact h, h4⟩]
theorem split_names {p : List UInt8} : (∀ l ∈ (splitP p).1, nameL l = true) ∧ (splitP p).1.length ≤ 4 := by
 unfold splitP
 cases p with
 | nil => exact ⟨by simp, by simp⟩
 | cons c r =>
  simp only
  split
  ·split
   ·exact ⟨by simp, by simp⟩
   ·split
    ·rename_i q
     rw [List.all_eq_true] at q
     exact q
    ·exact ⟨by simp, by simp⟩
  ·exact ⟨by simp, by simp⟩
abbrev ba (l : List UInt8) : ByteArray := ⟨l.toArray⟩
abbrev lb (s : ByteArray) : List UInt8 := s.data.toList
theorem ba_lb (s : ByteArray) : ba (lb s) = s := rfl
theorem lb_ba (l : List UInt8) : lb (ba l) = l := by simp [lb]
def nameB (s : ByteArray) : Bool := nameL (lb s)
def splitB (p : ByteArray) : List ByteArray × Bool := ((splitP (lb p)).1.map ba, (splitP (lb p)).2)
def joinB (L : List ByteArray) : ByteArray := ba (joinP (L.map lb))
def parentB (p : ByteArray) : ByteArray × ByteArray × Bool := if (splitB p).2 = true ∧ (splitB p).1 ≠ [] then (joinB (splitB p).1.dropLast, (splitB p).1.getLastD ⟨#[]⟩, true) else (⟨#[]⟩, ⟨#[]⟩, false)
theorem map_lb_ba (L : List (List UInt8)) : (L.map ba).map lb = L := by
 rw [List.map_map]
 exact List.map_id'' (fun l => lb_ba l) L
theorem map_ba_lb (L : List ByteArray) : (L.map lb).map ba = L := by
 rw [List.map_map]
 exact List.map_id'' (fun s => ba_lb s) L
theorem joinB_split {p : ByteArray} (h : (splitB p).2 = true) : joinB (splitB p).1 = p := by
 unfold joinB splitB
 simp only
 rw [map_lb_ba, join_split h]
theorem splitB_join {L : List ByteArray} (h : ∀ s ∈ L, nameB s = true) (h4 : L.length ≤ 4) : splitB (joinB L) = (L, true) := by
 unfold splitB joinB
 rw [lb_ba, split_join (L := L.map lb) (fun l hl => by obtain ⟨s, hs, rfl⟩ := List.mem_map.1 hl; exact h s hs) (by rw [List.length_map]; exact h4)]
 simp only
 rw [map_ba_lb]
theorem splitB_names (p : ByteArray) : (∀ s ∈ (splitB p).1, nameB s = true) ∧ (splitB p).1.length ≤ 4 := by
 have h := split_names (p := lb p)
 refine ⟨fun s hs => ?_, ?_⟩
 ·obtain ⟨l, hl, rfl⟩ := List.mem_map.1 hs
  unfold nameB
  rw [lb_ba]
  exact h.1 l hl
 ·show ((splitP (lb p)).1.map ba).length ≤ 4
  rw [List.length_map]; exact h.2
structure PaRel (p : ByteArray) (i bg : Nat) (done : List ByteArray) : Prop where
 le : bg ≤ i
 pos : 1 ≤ bg
 clean : ∀ j, bg ≤ j → j < i → bt p j ≠ 47
 sofar : (segs ((lb p).drop 1)).map ba = done ++ (segs ((lb p).drop bg)).map ba
 names : ∀ s ∈ done, nameB s = true
theorem ext_list (s : ByteArray) (a b : Nat) : lb (s.extract a b) = ((lb s).drop a).take (b - a) := by simp [lb, ByteArray.data_extract]
theorem bt_at {s : ByteArray} {j : Nat} (h : j < s.size) : bt s j = ((lb s)[j]'h).toNat := by
 unfold bt; rw [dif_pos h]; rfl
theorem clean_list {p : ByteArray} {i bg : Nat} (hi : i ≤ p.size) (h : ∀ j, bg ≤ j → j < i → bt p j ≠ 47) : ∀ c ∈ ((lb p).drop bg).take (i - bg), c ≠ 47 := fun c hc e => by
 subst e
 obtain ⟨j, hj, e2⟩ := List.mem_iff_getElem.1 hc
 rw [List.length_take, List.length_drop] at hj
 have hl : (lb p).length = p.size := rfl
 rw [List.getElem_take, List.getElem_drop] at e2
 have := h (bg + j) (by omega) (by omega)
 rw [bt_at (by omega)] at this
 simp only [e2] at this
 exact this (by decide)
theorem PaRel.start {p : ByteArray} : PaRel p 1 1 [] := ⟨Nat.le_refl _, Nat.le_refl _, fun j h1 h2 => by omega, rfl, by simp⟩
theorem PaRel.step {p : ByteArray} {i bg : Nat} {done : List ByteArray} (h : PaRel p i bg done) (hc : bt p i ≠ 47) : PaRel p (i + 1) bg done :=
 ⟨by have := h.le; omega, h.pos, fun j h1 h2 => by
  by_cases e : j = i
  ·subst e; exact hc
  ·exact h.clean j h1 (by omega), h.sofar, h.names⟩
theorem PaRel.split {p : ByteArray} {i bg : Nat} {done : List ByteArray} (h : PaRel p i bg done) (hi : i < p.size) (hc : bt p i = 47) : (segs ((lb p).drop 1)).map ba = (done ++ [p.extract bg i]) ++ (segs ((lb p).drop (i + 1))).map ba := by
 have hl : (lb p).length = p.size := rfl
 have e : (lb p).drop bg = ((lb p).drop bg).take (i - bg) ++ 47 :: (lb p).drop (i + 1) := by
  have h1 : ((lb p).drop bg).drop (i - bg) = 47 :: (lb p).drop (i + 1) := by
   rw [List.drop_drop, show bg + (i - bg) = i from by have := h.le; omega, List.drop_eq_getElem_cons (by omega)]
   congr 1
   have := bt_at hi
   rw [hc] at this
   have h2 : ((lb p)[i]'(by omega)).toNat = 47 := by omega
   exact UInt8.toNat_inj.1 h2
  rw [← h1, List.take_append_drop]
 rw [h.sofar, e, segs_cut _ _ (clean_list (by omega) h.clean), List.map_cons, List.append_assoc]
 congr 1
 rw [← ext_list, ba_lb]; rfl
theorem PaRel.fin {p : ByteArray} {i bg : Nat} {done : List ByteArray} (h : PaRel p i bg done) (hi : i = p.size) : (segs ((lb p).drop 1)).map ba = done ++ [p.extract bg i] := by
 have hl : (lb p).length = p.size := rfl
 have e : (lb p).drop bg = ((lb p).drop bg).take (i - bg) := by rw [List.take_of_length_le (by rw [List.length_drop]; omega)]
 rw [h.sofar, e, segs_none _ (clean_list (by omega) h.clean), List.map_cons, List.map_nil, ← ext_list, ba_lb]
theorem PaRel.next {p : ByteArray} {i bg : Nat} {done : List ByteArray} (h : PaRel p i bg done) (hi : i < p.size) (hc : bt p i = 47) (hn : nameB (p.extract bg i) = true) : PaRel p (i + 1) (i + 1) (done ++ [p.extract bg i]) :=
 ⟨Nat.le_refl _, by omega, fun j h1 h2 => by omega, h.split hi hc, fun s hs => by
  rcases List.mem_append.1 hs with q | q
  ·exact h.names s q
  ·simp at q; subst q; exact hn⟩
theorem splitB_rest {p : ByteArray} (h1 : 1 < p.size) (h0 : bt p 0 = 47) : splitB p = if (∀ s ∈ (segs ((lb p).drop 1)).map ba, nameB s = true) ∧ ((segs ((lb p).drop 1)).map ba).length ≤ 4 then ((segs ((lb p).drop 1)).map ba, true) else ([], false) := by
 have hl : (lb p).length = p.size := rfl
 unfold splitB
 have e : lb p = 47 :: (lb p).drop 1 := by
  have := List.drop_eq_getElem_cons (l := lb p) (i := 0) (by omega)
  rw [List.drop_zero] at this
  rw [this]
  congr 1
  have h2 := bt_at (s := p) (j := 0) (by omega)
  rw [h0] at h2
  have h3 : ((lb p)[0]'(by omega)).toNat = 47 := by omega
  exact UInt8.toNat_inj.1 h3
 have hne : (lb p).drop 1 ≠ [] := fun e => by have := congrArg List.length e; rw [List.length_drop] at this; simp at this; omega
 generalize (lb p).drop 1 = r at *
 rw [e]
 unfold splitP
 simp only
 rw [if_pos trivial, if_neg hne, List.length_map]
 have hall : ((segs r).all nameL = true) ↔ ∀ s ∈ (segs r).map ba, nameB s = true := by
  rw [List.all_eq_true]
  constructor
  ·intro h s hs
   obtain ⟨l, hl, rfl⟩ := List.mem_map.1 hs
   unfold nameB; rw [lb_ba]; exact h l hl
  ·intro h l hl
   have := h (ba l) (List.mem_map.2 ⟨l, hl, rfl⟩)
   unfold nameB at this; rw [lb_ba] at this; exact this
 by_cases hq : (segs r).all nameL = true ∧ (segs r).length ≤ 4
 ·rw [if_pos hq, if_pos ⟨hall.1 hq.1, hq.2⟩]
 ·rw [if_neg hq, if_neg (fun k => hq ⟨hall.2 k.1, k.2⟩)]; rfl
end Go.Proofs.YtakhagkhngmpaaaGreat
/- TreM: . -/
namespace Go.Proofs.YtakhagkhngmpaaaGreat
set_option maxRecDepth 100000
def atI (ns : List NM) (id : Int) : Int := match ns.findIdx? (fun n => n.id == id) with
 | some i => (i : Int)
 | none => -1
theorem atI_none {ns : List NM} {id : Int} (h : ∀ n ∈ ns, n.id ≠ id) : atI ns id = -1 := by
 unfold atI
 rw [List.findIdx?_eq_none_iff.2 (fun n hn => by simpa using h n hn)]
theorem atI_some {ns : List NM} {id : Int} {i : Nat} (hi : i < ns.length) (h : ns[i].id = id) (hl : ∀ j, j < i → ∀ hj : j < ns.length, ns[j].id ≠ id) : atI ns id = (i : Int) := by
 unfold atI
 have : ns.findIdx? (fun n => n.id == id) = some i := by
  rw [List.findIdx?_eq_some_iff_getElem]
  exact ⟨hi, by simpa using h, fun j hj => by simpa using hl j hj (by omega)⟩
 rw [this]
theorem atI_cases (ns : List NM) (id : Int) : (atI ns id = -1 ∧ ∀ n ∈ ns, n.id ≠ id) ∨ ∃ i, ∃ hi : i < ns.length, atI ns id = (i : Int) ∧ ns[i].id = id := by
 unfold atI
 cases h : ns.findIdx? (fun n => n.id == id) with
 | none =>
  left
  exact ⟨rfl, fun n hn => by have := List.findIdx?_eq_none_iff.1 h n hn; simpa using this⟩
 | some i =>
  right
  obtain ⟨hi, h1, _⟩ := List.findIdx?_eq_some_iff_getElem.1 h
  exact ⟨i, hi, rfl, by simpa using h1⟩
def inI (x a b : Int) : Bool := decide (a ≤ x) && decide (x ≤ b)
theorem inI_iff {x a b : Int} : inI x a b = true ↔ a ≤ x ∧ x ≤ b := by unfold inI; simp
def pieceOk (s : Int) (p : PM) : Bool := inI p.group 1 100000 && inI p.len 1 (groupN s : Nat)
def sumP : List PM → Int
 | [] => 0
 | p :: ps => p.len + sumP ps
theorem sumP_append (a b : List PM) : sumP (a ++ b) = sumP a + sumP b := by
 induction a with
 | nil => simp [sumP]
 | cons p a ih => simp only [List.cons_append, sumP, ih]; omega
theorem sumP_take (ps : List PM) (k : Nat) (h : k < ps.length) : sumP (ps.take (k + 1)) = sumP (ps.take k) + ps[k].len := by
 rw [List.take_succ_eq_append_getElem h, sumP_append]
 simp [sumP]
theorem sumP_ok {s : Int} {ps : List PM} (h : ∀ p ∈ ps, pieceOk s p = true) : 0 ≤ sumP ps ∧ sumP ps ≤ 32 * ps.length := by
 induction ps with
 | nil => simp [sumP]
 | cons p ps ih =>
  have h1 := ih (fun q hq => h q (by simp [hq]))
  have h2 := h p (by simp)
  unfold pieceOk at h2
  rw [Bool.and_eq_true, inI_iff, inI_iff] at h2
  have h3 := groupN_bounds s
  simp only [sumP, List.length_cons]
  push_cast
  omega
def fileOk (n : NM) : Bool := inI n.schema 1 3 && (n.quota == 0) && decide (n.pieces.length ≤ 40) && inI n.writer 0 9 && n.pieces.all (pieceOk n.schema) && (sumP n.pieces == n.len) && decide (sumP n.pieces ≤ 1000)
def dirOk (n : NM) : Bool := inI n.schema 0 3 && inI n.quota 0 1000 && (n.len == 0) && decide (n.pieces.length = 0) && (n.writer == 0)
def firstOk (n : NM) : Bool := (n.id == 1) && (n.parent == 0) && decide (n.name = ⟨#[]⟩) && n.dir && (n.schema != 0)
def climbs (ns : List NM) : Nat → Int → Bool
 | 0, _ => false
 | f + 1, id => match ns.findIdx? (fun n => n.id == id) with
  | none => false
  | some k => if (ns.getD k default).parent = 1 then true else climbs ns f (ns.getD k default).parent
def nodeOk (T : TM) (i : Nat) : Bool :=
 decide ((T.nodes.getD i default).id < T.next) && (if i = 0 then firstOk (T.nodes.getD i default) else decide ((T.nodes.getD (i - 1) default).id < (T.nodes.getD i default).id)) &&
 (if (T.nodes.getD i default).dir then dirOk (T.nodes.getD i default) else fileOk (T.nodes.getD i default)) &&
 (decide (i = 0) || (nameB (T.nodes.getD i default).name && decide (0 ≤ atI T.nodes (T.nodes.getD i default).parent) && (T.nodes.getD (atI T.nodes (T.nodes.getD i default).parent).toNat default).dir &&
  (List.range i).all (fun j => ! (((T.nodes.getD j default).parent == (T.nodes.getD i default).parent) && decide ((T.nodes.getD j default).name = (T.nodes.getD i default).name))) && climbs T.nodes 4 (T.nodes.getD i default).id))
def treeOk (T : TM) : Bool := decide (1 ≤ T.nodes.length) && decide (T.nodes.length ≤ 14) && decide (T.next ≤ 100000) && (List.range T.nodes.length).all (nodeOk T)
end Go.Proofs.YtakhagkhngmpaaaGreat
/- TreC: . -/
namespace Go.Proofs.YtakhagkhngmpaaaGreat
set_option maxRecDepth 100000
open Go.RowKit
attribute [local go_sem ↓] Go.wp_at_zero Go.wp_at_succ
structure Tri (w W : World) (L1 L2 L3 : List Value) : Prop where
 bel : Below w.heap.size w W
 b1 : WCells W w.heap.size L1
 b2 : WCells W (w.heap.size + 1) L2
 b3 : WCells W (w.heap.size + 1 + 1) L3
theorem Tri.new (w : World) (A B C : Array Value) (tA tB tC : TypeId) : Tri w (((w.alloc (.cells A tA)).alloc (.cells B tB)).alloc (.cells C tC)) A.toList B.toList C.toList := by
 have e1 : (w.alloc (.cells A tA)).heap.size = w.heap.size + 1 := by simp
 have e2 : ((w.alloc (.cells A tA)).alloc (.cells B tB)).heap.size = w.heap.size + 1 + 1 := by simp
 refine ⟨(((Below.refl _ _).alloc (Nat.le_refl _) _).alloc (by simp) _).alloc (by simp; omega) _, ((wcells_new w A tA).alloc _).alloc _, ?_, ?_⟩
 ·have := (wcells_new (w.alloc (.cells A tA)) B tB).alloc (.cells C tC)
  rw [e1] at this; exact this
 ·have := wcells_new ((w.alloc (.cells A tA)).alloc (.cells B tB)) C tC
  rw [e2] at this; exact this
theorem Tri.set {w W : World} {L1 L2 L3 : List Value} (h : Tri w W L1 L2 L3) (i : Nat) (v : Value) (hi : i < L3.length) : Tri w (W.setCell ⟨w.heap.size + 1 + 1, i, none⟩ v) L1 L2 (L3.set i v) :=
 ⟨h.bel.setCell (p := ⟨w.heap.size + 1 + 1, i, none⟩) (by show w.heap.size ≤ w.heap.size + 1 + 1; omega) v, h.b1.other _ _ (by show w.heap.size ≠ w.heap.size + 1 + 1; omega), h.b2.other _ _ (by show w.heap.size + 1 ≠ w.heap.size + 1 + 1; omega), h.b3.set i v hi⟩
theorem Tri.below {w W W' : World} {L1 L2 L3 : List Value} (h : Tri w W L1 L2 L3) (hb : Below W.heap.size W W') : Tri w W' L1 L2 L3 := ⟨h.bel.trans (hb.mono h.bel.size), h.b1.grow hb, h.b2.grow hb, h.b3.grow hb⟩
theorem infoNode : (Tryz.prog.info? 47).map (fun i => (i.zero, i.size, i.bytes)) = some (some (.agg #[.int .i64 0, .int .i64 0, .string ⟨#[]⟩, .bool false, .int .i64 0, .int .i64 0, .int .i64 0, .slice none 0 0, .int .i64 0]), 9, 96) := by kernel_rfl
theorem pcs_ne {ps : List PM} (h : ps ≠ []) : pcs ps ≠ [] := fun e => h (pcs_nil.1 e)

theorem nds_at (rs : List NR) (i : Nat) (h : i < rs.length) : (nds rs)[i]'(by rw [nds_len]; exact h) = rs[i].nd := by simp [nds]
set_option maxHeartbeats 1000000 in
theorem specAt {w : World} {v : Value} {T : TM} {lo hi : Nat} (id : Int) (h : TSee w v T lo hi) (hl : T.nodes.length ≤ 1048576) : Calls Tryz.prog 67 #[v, .int .i64 id] w fun e w' => e = .returned (.int .i64 (atI T.nodes id)) ∧ Below w.heap.size w w' := by
 obtain ⟨a, cap, rs, rfl, hr, hm⟩ := h
 obtain ⟨n, hn⟩ : ∃ n, n = rs.length := ⟨_, rfl⟩
 have hnl : n = T.nodes.length := by rw [hn, ← hr, nds_len]
 have HN := Shut.mk (And.intro hn hr)
 obtain ⟨R, hR⟩ : ∃ R, R = atI T.nodes id := ⟨_, rfl⟩
 have HRR := Shut.mk hR
 have hn9 : n ≤ 1048576 := by omega
 rw [← hR, ← hn]
 generalize T.next = nx at *
 obtain ⟨W, hW⟩ : ∃ W, W = w.alloc (.cells #[.slice a n cap, .int .i64 nx] 26) := ⟨_, rfl⟩
 have HB : Shut (Below w.heap.size w W) := ⟨by rw [hW]; exact (Below.refl _ _).alloc (Nat.le_refl _) _⟩
 have HM := Shut.mk (hm.below HB.out)
 have x0 : W.cell? ⟨w.heap.size, 0, none⟩ = some (.slice a n cap) := by rw [hW]; exact ((wcells_new w #[.slice a n cap, .int .i64 nx] 26).2 0 _ rfl).1
 clear hm hr hn hnl hR hl
 go_enter Tryz.func67, Tryz.ntmps67
 go_upto_region 1 with fail
 rw [← hW]
 clear hW
 go_wp2_with fail
 go_loopw [5] (fun i wr => ∃ (k : Nat), i = .int .i64 k ∧ k ≤ n ∧ Shut (∀ j, j < k → ∀ hj : j < T.nodes.length, T.nodes[j].id ≠ id) ∧ wr = W) (fun i _ => n - (intOf i).toNat)
 case atStart => exact ⟨0, rfl, Nat.zero_le _, ⟨fun j hj => by omega⟩, rfl⟩
 case round =>
  obtain ⟨k, rfl, hk, hall, rfl⟩ := hrel
  by_cases hlt : k < n
  ·have hlr : k < rs.length := by have := HN.out.1; omega
   have htl : k < T.nodes.length := by rw [← HN.out.2, nds_len]; exact hlr
   obtain ⟨b, off, rfl, lb, hc⟩ := TR.nat HM.out (by omega)
   have d0 := (hc k hlr).1
   have hid : rs[k].nd = T.nodes[k] := by
    have := nds_at rs k hlr
    rw [← this]
    simp only [HN.out.2]
   rw [hid] at d0
   have k0 : (0 : Int) ≤ (k : Int) := by omega
   have k1 : (k : Int) < (n : Int) := by omega
   clear hc hid
   by_cases he : T.nodes[k].id = id
   ·have HE : Shut (R = (k : Int)) := ⟨by rw [HRR.out]; exact atI_some htl he hall.out⟩
    have he' : (T.nodes[k].id == id) = true := by simpa using he
    generalize T.nodes[k].id = q at *
    go_wp2_with fail
    go_ret
    exact ⟨by rw [HE.out]; rfl, HB.out⟩
   ·have he' : (T.nodes[k].id == id) = false := by simpa using he
    have HNX : Shut (∀ j, j < k + 1 → ∀ hj : j < T.nodes.length, T.nodes[j].id ≠ id) := ⟨fun j hj hj2 => by
     by_cases e : j = k
     ·subst e; exact he
     ·exact hall.out j (by omega) hj2⟩
    generalize T.nodes[k].id = q at *
    go_wp2_with fail
    go_roundw
    case rel => exact ⟨k + 1, by go_num, by omega, HNX, by first | rfl | trivial⟩
    case measure => simp [intOf]; omega
  ·have hlt' : ¬ (k : Int) < (n : Int) := by omega
   have HE : Shut (R = -1) := ⟨by
    rw [HRR.out]
    refine atI_none (fun m hm => ?_)
    obtain ⟨j, hj, rfl⟩ := List.mem_iff_getElem.1 hm
    exact hall.out j (by rw [← HN.out.2, nds_len] at hj; have := HN.out.1; omega) hj⟩
   go_wp2_with fail
   go_ret
   exact ⟨by rw [HE.out]; rfl, HB.out⟩
theorem isInI (x a b : Int) (w : World) (r : Bool) (h : inI x a b = r) : Calls Tryz.prog 61 #[.int .i64 x, .int .i64 a, .int .i64 b] w fun e w' => e = .returned (.bool r) ∧ w' = w := isIn x a b w r h
theorem fileOk_no1 {n : NM} (h : inI n.schema 1 3 = false) : fileOk n = false := by unfold fileOk; rw [h]; rfl
theorem fileOk_no2 {n : NM} (h : n.quota ≠ 0) : fileOk n = false := by unfold fileOk; rw [show (n.quota == 0) = false by simpa using h]; simp
theorem fileOk_no3 {n : NM} (h : ¬ n.pieces.length ≤ 40) : fileOk n = false := by unfold fileOk; rw [decide_eq_false h]; simp
theorem fileOk_no4 {n : NM} (h : inI n.writer 0 9 = false) : fileOk n = false := by unfold fileOk; rw [h]; simp
theorem fileOk_no5 {n : NM} {p : PM} (hp : p ∈ n.pieces) (h : pieceOk n.schema p = false) : fileOk n = false := by
 have : n.pieces.all (pieceOk n.schema) = false := by
  cases e : n.pieces.all (pieceOk n.schema) with
  | false => rfl
  | true => rw [List.all_eq_true] at e; rw [e p hp] at h; cases h
 unfold fileOk; rw [this]; simp
theorem fileOk_yes {n : NM} (h1 : inI n.schema 1 3 = true) (h2 : n.quota = 0) (h3 : n.pieces.length ≤ 40) (h4 : inI n.writer 0 9 = true) (h5 : ∀ p ∈ n.pieces, pieceOk n.schema p = true) : fileOk n = ((sumP n.pieces == n.len) && decide (sumP n.pieces ≤ 1000)) := by
 unfold fileOk
 rw [h1, h2, decide_eq_true h3, h4, show n.pieces.all (pieceOk n.schema) = true from List.all_eq_true.2 h5]
 simp
set_option maxHeartbeats 4000000 in
theorem specFile (r : NR) (w : World) (lo hi : Nat) (hp : RRow w r.loc (pcs r.nd.pieces) lo hi) (hpl : r.nd.pieces.length ≤ 1048576) : Calls Tryz.prog 142 #[nv r] w fun e w' => e = .returned (.bool (fileOk r.nd)) ∧ Below w.heap.size w w' := by
 obtain ⟨⟨id, parent, name, dir, schema, quota, len, pieces, writer⟩, loc, cap⟩ := r
 obtain ⟨R, hR⟩ : ∃ R, R = fileOk ⟨id, parent, name, dir, schema, quota, len, pieces, writer⟩ := ⟨_, rfl⟩
 have HR := Shut.mk hR
 dsimp only [nv] at *
 rw [← hR]
 obtain ⟨np, hnp⟩ : ∃ np, np = pieces.length := ⟨_, rfl⟩
 rw [← hnp] at hpl ⊢
 have HNP := Shut.mk hnp
 obtain ⟨W, hW⟩ : ∃ W, W = w.alloc (.cells #[.int .i64 id, .int .i64 parent, .string name, .bool dir, .int .i64 schema, .int .i64 quota, .int .i64 len, .slice loc np cap, .int .i64 writer] 47) := ⟨_, rfl⟩
 have HB : Shut (Below w.heap.size w W) := ⟨by rw [hW]; exact (Below.refl _ _).alloc (Nat.le_refl _) _⟩
 have HC : Shut (WCells W w.heap.size [.int .i64 id, .int .i64 parent, .string name, .bool dir, .int .i64 schema, .int .i64 quota, .int .i64 len, .slice loc np cap, .int .i64 writer]) := ⟨by rw [hW]; exact wcells_new w #[.int .i64 id, .int .i64 parent, .string name, .bool dir, .int .i64 schema, .int .i64 quota, .int .i64 len, .slice loc np cap, .int .i64 writer] 47⟩
 have HP := Shut.mk (hp.below HB.out)
 have x4 := (HC.out.2 4 _ rfl).1
 have x5 := (HC.out.2 5 _ rfl).1
 have x7 := (HC.out.2 7 _ rfl).1
 have x8 := (HC.out.2 8 _ rfl).1
 clear hp hR hnp
 cases h1 : inI schema 1 3 with
 | false =>
  have HE := Shut.mk (HR.out.trans (fileOk_no1 h1))
  go_enter Tryz.func142, Tryz.ntmps142
  go_upto_region 1 with fail
  rw [← hW]
  clear hW
  go_wp2_with fail
  refine (isInI schema 1 3 _ false h1).mono ?_
  rintro e w1 ⟨rfl, hw1⟩
  obtain rfl : W = w1 := hw1.symm
  clear hw1
  go_wp2_with fail
  go_ret
  exact ⟨by rw [HE.out]; rfl, HB.out⟩
 | true =>
  by_cases h2 : quota = 0
  case neg =>
   have HE := Shut.mk (HR.out.trans (fileOk_no2 h2))
   have h2' : (quota != 0) = true := by simpa using h2
   go_enter Tryz.func142, Tryz.ntmps142
   go_upto_region 1 with fail
   rw [← hW]
   clear hW
   go_wp2_with fail
   refine (isInI schema 1 3 _ true h1).mono ?_
   rintro e w1 ⟨rfl, hw1⟩
   obtain rfl : W = w1 := hw1.symm
   clear hw1
   go_wp2_with fail
   go_ret
   exact ⟨by rw [HE.out]; rfl, HB.out⟩
  have h2' : (quota != 0) = false := by rw [h2]; rfl
  have H2 := Shut.mk h2
  clear h2
  by_cases h3 : np ≤ 40
  case neg =>
   have HE := Shut.mk (HR.out.trans (fileOk_no3 (by rw [← HNP.out]; exact h3)))
   have h3' : (40 : Int) < (np : Int) := by omega
   go_enter Tryz.func142, Tryz.ntmps142
   go_upto_region 1 with fail
   rw [← hW]
   clear hW
   go_wp2_with fail
   refine (isInI schema 1 3 _ true h1).mono ?_
   rintro e w1 ⟨rfl, hw1⟩
   obtain rfl : W = w1 := hw1.symm
   clear hw1
   go_wp2_with fail
   go_ret
   exact ⟨by rw [HE.out]; rfl, HB.out⟩
  have h3' : ¬ (40 : Int) < (np : Int) := by omega
  cases h4 : inI writer 0 9 with
  | false =>
   have HE := Shut.mk (HR.out.trans (fileOk_no4 h4))
   go_enter Tryz.func142, Tryz.ntmps142
   go_upto_region 1 with fail
   rw [← hW]
   clear hW
   go_wp2_with fail
   refine (isInI schema 1 3 _ true h1).mono ?_
   rintro e w1 ⟨rfl, hw1⟩
   obtain rfl : W = w1 := hw1.symm
   clear hw1
   go_wp2_with fail
   refine (isInI writer 0 9 _ false h4).mono ?_
   rintro e w1 ⟨rfl, hw1⟩
   obtain rfl : W = w1 := hw1.symm
   clear hw1
   go_wp2_with fail
   go_ret
   exact ⟨by rw [HE.out]; rfl, HB.out⟩
  | true =>
   have HY := Shut.mk (fun (q : ∀ p ∈ pieces, pieceOk schema p = true) => HR.out.trans (fileOk_yes (n := ⟨id, parent, name, dir, schema, quota, len, pieces, writer⟩) h1 H2.out (by rw [← HNP.out]; exact h3) h4 q))
   have HNO := Shut.mk (fun (p : PM) (hp : p ∈ pieces) (q : pieceOk schema p = false) => HR.out.trans (fileOk_no5 (n := ⟨id, parent, name, dir, schema, quota, len, pieces, writer⟩) hp q))
   have x6 := (HC.out.2 6 _ rfl).1
   have hg := groupN_bounds schema
   obtain ⟨G, hG⟩ : ∃ G, G = groupN schema := ⟨_, rfl⟩
   have HGS := Shut.mk (fun W => specGroupSize schema W)
   rw [← hG] at HGS hg
   have HG := Shut.mk hG
   clear hG
   go_enter Tryz.func142, Tryz.ntmps142
   go_upto_region 1 with fail
   rw [← hW]
   clear hW
   go_wp2_with fail
   refine (isInI schema 1 3 _ true h1).mono ?_
   rintro e w1 ⟨rfl, hw1⟩
   obtain rfl : W = w1 := hw1.symm
   clear hw1
   go_wp2_with fail
   refine (isInI writer 0 9 _ true h4).mono ?_
   rintro e w1 ⟨rfl, hw1⟩
   obtain rfl : W = w1 := hw1.symm
   clear hw1
   have HX := Shut.mk (And.intro x4 (And.intro x6 x7))
   clear h1 h4 x4 x5 x6 x8
   go_wp2_with fail
   go_loopw [3, 4] (fun s i wr => ∃ (k : Nat) (z : Int), i = .int .i64 k ∧ s = .int .i64 z ∧ k ≤ np ∧ 0 ≤ z ∧ z ≤ 32 * k ∧ Shut (z = sumP (pieces.take k) ∧ ∀ p ∈ pieces.take k, pieceOk schema p = true) ∧ Shut (Below W.heap.size W wr)) (fun _ i _ => np - (intOf i).toNat)
   case atStart => exact ⟨0, 0, rfl, rfl, Nat.zero_le _, by omega, by omega, ⟨rfl, by simp⟩, ⟨Below.refl _ _⟩⟩
   case round =>
    clear x7
    obtain ⟨k, z, rfl, rfl, hk, hz0, hz1, hall, hbl⟩ := hrel
    have hwl : w.heap.size < W.heap.size := HC.out.1
    have x4 := (hbl.out.cell (p := ⟨w.heap.size, 4, none⟩) hwl).trans HX.out.1
    have x6 := (hbl.out.cell (p := ⟨w.heap.size, 6, none⟩) hwl).trans HX.out.2.1
    have x7 := (hbl.out.cell (p := ⟨w.heap.size, 7, none⟩) hwl).trans HX.out.2.2
    by_cases hlt : k < np
    ·have hlp : k < pieces.length := by have := HNP.out; omega
     have k0 : (0 : Int) ≤ (k : Int) := by omega
     have k1 : (k : Int) < (np : Int) := by omega
     obtain ⟨b, off, rfl, lb, hc⟩ := pcs_at (HP.out.below hbl.out) (by omega)
     obtain ⟨d0, d1⟩ := hc k hlp
     have hst := sumP_take pieces k hlp
     have hmem : pieces[k] ∈ pieces := List.getElem_mem hlp
     have HTK : Shut (pieces.take (k + 1) = pieces.take k ++ [pieces[k]]) := ⟨List.take_succ_eq_append_getElem hlp⟩
     have hbn : ∀ q, Below W.heap.size W (wr.drewN q) := fun q => hbl.out.trans ⟨rfl, rfl, rfl, Nat.le_refl _, fun _ _ => rfl⟩
     have HBN := Shut.mk hbn
     generalize pieces[k] = p at *
     have HST := Shut.mk hst
     clear hc hst hbn
     cases g1 : inI p.group 1 100000 with
     | false =>
      have HE := Shut.mk (HNO.out p hmem (by unfold pieceOk; rw [g1]; rfl))
      clear hbl
      go_wp2_with fail
      go_quiet ((go_at_call 61; exact Calls.quiet_of_same (isInI _ _ _ _ false g1)))
      go_wp2_with fail
      go_ret
      exact ⟨by rw [HE.out]; rfl, HB.out.trans ((HBN.out _).mono HB.out.size)⟩
     | true =>
      cases g2 : inI p.len 1 (G : Int) with
      | false =>
       have HE := Shut.mk (HNO.out p hmem (by unfold pieceOk; rw [← HG.out, g1, g2]; rfl))
       clear hbl
       go_wp2_with fail
       go_quiet (first | (go_at_call 93; exact Calls.quiet_of_same (HGS.out _)) | (go_at_call 61; exact Calls.quiet_of_same (isInI _ _ _ _ true g1)) | (go_at_call 61; exact Calls.quiet_of_same (isInI _ _ _ _ false g2)))
       go_wp2_with fail
       go_ret
       exact ⟨by rw [HE.out]; rfl, HB.out.trans ((HBN.out _).mono HB.out.size)⟩
      | true =>
       have hok : pieceOk schema p = true := by unfold pieceOk; rw [← HG.out, g1, g2]; rfl
       have hlen := inI_iff.1 g2
       have HAL : Shut (z + p.len = sumP (pieces.take (k + 1)) ∧ ∀ q ∈ pieces.take (k + 1), pieceOk schema q = true) := ⟨by rw [HST.out, hall.out.1], fun q hq => by
        rw [HTK.out] at hq
        rcases List.mem_append.1 hq with h | h
        ·exact hall.out.2 q h
        ·simp at h; subst h; exact hok⟩
       clear hbl hall hok
       go_wp2_with fail
       go_quiet (first | (go_at_call 93; exact Calls.quiet_of_same (HGS.out _)) | (go_at_call 61; exact Calls.quiet_of_same (isInI _ _ _ _ true g1)) | (go_at_call 61; exact Calls.quiet_of_same (isInI _ _ _ _ true g2)))
       go_wp2_with fail
       go_roundw
       case rel => exact ⟨k + 1, z + p.len, by go_num, rfl, by omega, by omega, by push_cast; omega, HAL, ⟨HBN.out _⟩⟩
       case measure => simp [intOf]; omega
    ·have hlt' : ¬ (k : Int) < (np : Int) := by omega
     have hfull : pieces.take k = pieces := List.take_of_length_le (by have := HNP.out; omega)
     have hz := hall.out
     rw [hfull] at hz
     have HE := Shut.mk (HY.out hz.2)
     have HZ := Shut.mk hz.1
     clear hfull hz hall
     by_cases e1 : z = len
     ·have e1' : (z == len) = true := by simpa using e1
      by_cases e2 : z ≤ 1000
      ·have HF : Shut (R = true) := ⟨by rw [HE.out, ← HZ.out]; simp [e1, e1 ▸ e2]⟩
       clear HE e1
       go_wp2_with fail
       go_ret
       exact ⟨by rw [HF.out]; rfl, HB.out.trans (hbl.out.mono HB.out.size)⟩
      ·have HF : Shut (R = false) := ⟨by rw [HE.out, ← HZ.out]; simp; omega⟩
       clear HE e1
       go_wp2_with fail
       go_ret
       exact ⟨by rw [HF.out]; rfl, HB.out.trans (hbl.out.mono HB.out.size)⟩
     ·have e1' : (z == len) = false := by simpa using e1
      have HF : Shut (R = false) := ⟨by rw [HE.out, ← HZ.out]; simp [e1]⟩
      clear HE e1
      go_wp2_with fail
      go_ret
      exact ⟨by rw [HF.out]; rfl, HB.out.trans (hbl.out.mono HB.out.size)⟩
end Go.Proofs.YtakhagkhngmpaaaGreat
/- StrsA: . -/
namespace Go.Proofs.YtakhagkhngmpaaaGreat
set_option maxRecDepth 100000
open Go.RowKit
end Go.Proofs.YtakhagkhngmpaaaGreat
/- DecM: . -/
namespace Go.Proofs.YtakhagkhngmpaaaGreat.W
def dgF : Nat → Nat → List UInt8
 | 0, _ => []
 | f + 1, n => if n = 0 then [] else dgF f (n / 10) ++ [UInt8.ofNat (48 + n % 10)]
def dg (n : Nat) : List UInt8 := dgF n n
def decS (n : Nat) : List UInt8 := if n = 0 then [48] else dg n
end Go.Proofs.YtakhagkhngmpaaaGreat.W
/- Dec: . -/
namespace Go.Proofs.YtakhagkhngmpaaaGreat
set_option maxRecDepth 100000
open Go.RowKit
open Go.PlainAid (bt)
end Go.Proofs.YtakhagkhngmpaaaGreat
/- StrsB: . -/
namespace Go.Proofs.YtakhagkhngmpaaaGreat
set_option maxRecDepth 100000
open Go.RowKit
attribute [local go_sem ↓] Go.wp_at_zero Go.wp_at_succ
def mt (k : Nat) : ByteArray := (⟨#[109]⟩ : ByteArray) ++ ⟨(W.decS k).toArray⟩
def marks (k n : Nat) : List ByteArray := (List.range n).map fun j => mt (k + j)
def WRow (w : World) (g : Nat) (xs : List ByteArray) : Prop :=
 g < w.heap.size ∧ ∀ j, j < xs.length → w.cell? ⟨g, j, none⟩ = some (.string (xs.getD j ⟨#[]⟩)) ∧ w.frozen? ⟨g, j, none⟩ = false
theorem WRow.below {w w' : World} {g B : Nat} {xs : List ByteArray} (h : WRow w g xs) (hb : Below B w w') (hg : g < B) : WRow w' g xs :=
 ⟨Nat.lt_of_lt_of_le h.1 hb.size, fun j hj => ⟨(hb.cell (p := ⟨g, j, none⟩) hg).trans (h.2 j hj).1, (hb.frozen (p := ⟨g, j, none⟩) hg).trans (h.2 j hj).2⟩⟩
theorem WRow.set {w : World} {g : Nat} {xs : List ByteArray} (h : WRow w g xs) (i : Nat) (x : ByteArray) (hi : i < xs.length) : WRow (w.setCell ⟨g, i, none⟩ (.string x)) g (xs.set i x) := by
 refine ⟨by have := h.1; simpa [World.setCell] using this, fun j hj => ?_⟩
 rw [List.length_set] at hj
 refine ⟨?_, (World.frozen?_setCell _ _ _ _).trans (h.2 j hj).2⟩
 by_cases e : j = i
 ·subst e
  rw [World.cell?_setCell_same _ _ _ (h.2 j hj).1]
  simp [List.getD, hi]
 ·rw [World.cell?_setCell_other _ _ _ _ (by first | (simp; done) | (simp; omega)), (h.2 j hj).1]
  simp [List.getD, Ne.symm e]
theorem grownBy_setCell (w : World) (g i : Nat) (v : Value) : w.grownBy (w.setCell ⟨g, i, none⟩ v) (some g) :=
 ⟨rfl, rfl, rfl, by simp [World.setCell], fun k _ hk => Below.heap_setCell _ _ _ _ (fun e => hk (by rw [e]))⟩
end Go.Proofs.YtakhagkhngmpaaaGreat
/- TvA: . -/
namespace Go.Proofs.YtakhagkhngmpaaaGreat
set_option maxRecDepth 100000
open Go.RowKit
def tv (l : List ByteArray) : List Value := l.map Value.string
theorem tv_snoc (l : List ByteArray) (x : ByteArray) : tv l ++ [.string x] = tv (l ++ [x]) := by simp [tv]
theorem tv_len (l : List ByteArray) : (tv l).length = l.length := by simp [tv]
end Go.Proofs.YtakhagkhngmpaaaGreat
/- StrV: . -/
namespace Go.Proofs.YtakhagkhngmpaaaGreat
set_option maxRecDepth 100000
open Go.RowKit
attribute [local go_sem ↓] Go.wp_at_zero Go.wp_at_succ
theorem tv_get (L : List ByteArray) (j : Nat) (h : j < L.length) : (tv L)[j]? = some (.string (L.getD j ⟨#[]⟩)) := by simp [tv, List.getD, h]
def tsum : List ByteArray → Nat
 | [] => 0
 | x :: L => x.size + tsum L
theorem tsum_append (L M : List ByteArray) : tsum (L ++ M) = tsum L + tsum M := by
 induction L with
 | nil => simp [tsum]
 | cons t L ih => simp only [List.cons_append, tsum]; omega
theorem tsum_take (L : List ByteArray) (k : Nat) (h : k < L.length) : tsum (L.take (k + 1)) = tsum (L.take k) + (L.getD k ⟨#[]⟩).size := by
 rw [List.take_succ_eq_append_getElem h, tsum_append]
 have e : L.getD k ⟨#[]⟩ = L[k] := by simp [List.getD, h]
 rw [e]; simp [tsum]
theorem tsum_le (L : List ByteArray) (k : Nat) : tsum (L.take k) ≤ tsum L := by
 have := tsum_append (L.take k) (L.drop k)
 rw [List.take_append_drop] at this
 omega
def TFit (L : List ByteArray) : Prop := L.length + tsum L ≤ 1048576
def SSee (w : World) (v : Value) (L : List ByteArray) (lo hi : Nat) : Prop := ∃ (a : Option Addr) (cap : Nat), v = .slice a L.length cap ∧ RRow w a (tv L) lo hi
def SAns (w : World) (v : Value) (L : List ByteArray) (lo hi : Nat) : Prop := ∃ (a : Option Addr) (cap : Nat), v = .slice a L.length cap ∧ L.length ≤ cap ∧ (L = [] ∨ ∃ g, a = some ⟨g, 0, none⟩ ∧ lo ≤ g ∧ g < hi ∧ WCells w g (tv L))
theorem SAns.see {w : World} {v : Value} {L : List ByteArray} {lo hi : Nat} (h : SAns w v L lo hi) : SSee w v L lo hi := by
 obtain ⟨a, cap, e, _, h1⟩ := h
 refine ⟨a, cap, e, ?_⟩
 rcases h1 with rfl | ⟨g, rfl, q1, q2, hm⟩
 ·intro h; simp [tv] at h
 ·exact RRow.of_wcells hm q1 q2
theorem SSee.turned {w w' : World} {v : Value} {L : List ByteArray} {lo hi lo' hi' : Nat} (h : SSee w v L lo hi) (t : Turned w w' lo' hi') (hd : hi ≤ lo' ∨ hi' ≤ lo) : SSee w' v L lo hi := by
 obtain ⟨a, cap, e, h1⟩ := h
 exact ⟨a, cap, e, h1.turned t hd⟩
theorem SSee.below {w w' : World} {v : Value} {L : List ByteArray} {lo hi : Nat} (h : SSee w v L lo hi) (hb : Below w.heap.size w w') : SSee w' v L lo hi := by
 obtain ⟨a, cap, e, h1⟩ := h
 exact ⟨a, cap, e, h1.below hb⟩
theorem SAns.turned {w w' : World} {v : Value} {L : List ByteArray} {lo hi lo' hi' : Nat} (h : SAns w v L lo hi) (t : Turned w w' lo' hi') (hd : hi ≤ lo' ∨ hi' ≤ lo) : SAns w' v L lo hi := by
 obtain ⟨a, cap, e, hc, h1⟩ := h
 refine ⟨a, cap, e, hc, ?_⟩
 rcases h1 with rfl | ⟨g, rfl, q1, q2, hm⟩
 ·exact .inl rfl
 ·exact .inr ⟨g, rfl, q1, q2, hm.turned t (by omega)⟩
theorem SAns.below {w w' : World} {v : Value} {L : List ByteArray} {lo hi : Nat} (h : SAns w v L lo hi) (hb : Below w.heap.size w w') : SAns w' v L lo hi := by
 obtain ⟨a, cap, e, hc, h1⟩ := h
 refine ⟨a, cap, e, hc, ?_⟩
 rcases h1 with rfl | ⟨g, rfl, q1, q2, hm⟩
 ·exact .inl rfl
 ·exact .inr ⟨g, rfl, q1, q2, hm.grow hb⟩
theorem SAns.empty (w : World) (a : Option Addr) (cap lo hi : Nat) : SAns w (.slice a 0 cap) [] lo hi := ⟨a, cap, rfl, Nat.zero_le _, .inl rfl⟩
theorem infoTextG : (Tryz.prog.info? 9).map (fun i => (i.zero, i.size, i.bytes)) = some (some (.string ⟨#[]⟩), 1, 16) := by kernel_rfl
end Go.Proofs.YtakhagkhngmpaaaGreat
/- PathA: . -/
namespace Go.Proofs.YtakhagkhngmpaaaGreat
set_option maxRecDepth 100000
open Go.RowKit
open Go.PlainAid (bt)
attribute [local go_sem ↓] Go.wp_at_zero Go.wp_at_succ
theorem nameC_bt {s : ByteArray} {j : Nat} (h : j < s.size) : nameC ((lb s)[j]'h) = ((decide (97 ≤ bt s j) && decide (bt s j ≤ 122)) || (decide (48 ≤ bt s j) && decide (bt s j ≤ 57))) := by
 unfold nameC
 rw [bt_at h]
 generalize ((lb s)[j]'h).toNat = n
 simp only [show ((97 : Int) ≤ (n : Int)) = (97 ≤ n) from propext ⟨fun h => by omega, fun h => by omega⟩, show ((n : Int) ≤ 122) = (n ≤ 122) from propext ⟨fun h => by omega, fun h => by omega⟩, show ((48 : Int) ≤ (n : Int)) = (48 ≤ n) from propext ⟨fun h => by omega, fun h => by omega⟩, show ((n : Int) ≤ 57) = (n ≤ 57) from propext ⟨fun h => by omega, fun h => by omega⟩]
def nameN (n : Int) : Prop := (97 ≤ n ∧ n ≤ 122) ∨ (48 ≤ n ∧ n ≤ 57)
theorem nameC_iff {s : ByteArray} {j : Nat} (h : j < s.size) : nameC ((lb s)[j]'h) = true ↔ nameN (bt s j) := by
 rw [nameC_bt h]
 unfold nameN
 simp only [Bool.or_eq_true, Bool.and_eq_true, decide_eq_true_eq]
theorem nameB_iff (s : ByteArray) : nameB s = true ↔ (∀ j, j < s.size → nameN (bt s j)) ∧ 1 ≤ s.size ∧ s.size ≤ 8 := by
 unfold nameB nameL
 have hl : (lb s).length = s.size := rfl
 simp only [Bool.and_eq_true, decide_eq_true_eq, List.all_eq_true, hl]
 constructor
 ·rintro ⟨h1, h2⟩
  exact ⟨fun j hj => (nameC_iff hj).1 (h1 _ (List.getElem_mem hj)), h2⟩
 ·rintro ⟨h1, h2⟩
  refine ⟨fun c hc => ?_, h2⟩
  obtain ⟨j, hj, rfl⟩ := List.mem_iff_getElem.1 hc
  exact (nameC_iff hj).2 (h1 j hj)
theorem nameB_no {s : ByteArray} {j : Nat} (h : j < s.size) (hn : ¬ nameN (bt s j)) : nameB s = false := by
 cases e : nameB s with
 | false => rfl
 | true => exact absurd ((nameB_iff s).1 e |>.1 j h) hn
theorem units_at {w : World} {a : Option Addr} {L : List ByteArray} {lo hi : Nat} (h : RRow w a (tv L) lo hi) (hp : 0 < L.length) : ∃ b off, a = some ⟨b, off, none⟩ ∧ b < w.heap.size ∧ ∀ j, j < L.length → w.cell? ⟨b, off + j, none⟩ = some (.string (L.getD j ⟨#[]⟩)) := by
 obtain ⟨b, off, e, _, _, hb, hc⟩ := h (by rw [tv_len]; exact hp)
 exact ⟨b, off, e, hb, fun j hj => hc j _ (tv_get L j hj)⟩
set_option maxHeartbeats 1000000 in
theorem specNameOk (s : ByteArray) (w : World) (hs : s.size ≤ 1048576) : Calls Tryz.prog 122 #[.string s] w fun e w' => e = .returned (.bool (nameB s)) ∧ Below w.heap.size w w' := by
 have hb := Go.PlainAid.get_bt s
 obtain ⟨r, hre⟩ : ∃ r, r = nameB s := ⟨_, rfl⟩
 have HRE := Shut.mk hre
 rw [← hre]
 clear hre
 go_enter Tryz.func122, Tryz.ntmps122
 go_wp2_with fail
 go_loopw [3] (fun i wr => ∃ (k : Nat), i = .int .i64 k ∧ k ≤ s.size ∧ Shut (∀ j, j < k → nameN (bt s j)) ∧ Shut (Below w.heap.size w wr)) (fun i _ => s.size - (intOf i).toNat)
 case atStart => exact ⟨0, rfl, Nat.zero_le _, ⟨fun j hj => by omega⟩, ⟨Below.refl _ _⟩⟩
 case round =>
  obtain ⟨k, rfl, hk, hall, hbl⟩ := hrel
  by_cases hlt : k < s.size
  ·have b0 := Go.PlainAid.bt_nonneg s k
   have b1 := Go.PlainAid.bt_le s k
   have hlt' : (k : Int) < (s.size : Int) := by omega
   have k0 : (0 : Int) ≤ (k : Int) := by omega
   have HN := Shut.mk (fun (q : nameN (bt s k)) => show ∀ j, j < k + 1 → nameN (bt s j) from fun j hj => by
    by_cases e : j = k
    ·subst e; exact q
    ·exact hall.out j (by omega))
   have HF := Shut.mk (fun (q : ¬ nameN (bt s k)) => HRE.out.trans (nameB_no hlt q))
   by_cases c1 : bt s k < 97
   ·by_cases c2 : bt s k < 48
    ·have HE := Shut.mk (HF.out (fun q => by unfold nameN at q; omega))
     go_wp2_with fail
     go_ret
     exact ⟨by rw [HE.out]; rfl, hbl.out⟩
    ·by_cases c3 : 57 < bt s k
     ·have HE := Shut.mk (HF.out (fun q => by unfold nameN at q; omega))
      go_wp2_with fail
      go_ret
      exact ⟨by rw [HE.out]; rfl, hbl.out⟩
     ·have HE := Shut.mk (HN.out (by unfold nameN; omega))
      go_wp2_with fail
      go_roundw
      case rel => exact ⟨k + 1, by go_num, by omega, HE, hbl⟩
      case measure => simp [intOf]; omega
   ·by_cases c2 : 122 < bt s k
    ·have HE := Shut.mk (HF.out (fun q => by unfold nameN at q; omega))
     have c3 : ¬ bt s k < 48 := by omega
     have c4 : 57 < bt s k := by omega
     go_wp2_with fail
     go_ret
     exact ⟨by rw [HE.out]; rfl, hbl.out⟩
    ·have HE := Shut.mk (HN.out (by unfold nameN; omega))
     go_wp2_with fail
     go_roundw
     case rel => exact ⟨k + 1, by go_num, by omega, HE, hbl⟩
     case measure => simp [intOf]; omega
  ·have hlt' : ¬ (k : Int) < (s.size : Int) := by omega
   have hin : (decide ((1 : Int) ≤ (s.size : Int)) && decide ((s.size : Int) ≤ 8)) = r := by
    rw [HRE.out, Bool.eq_iff_iff, nameB_iff]
    simp only [Bool.and_eq_true, decide_eq_true_eq]
    constructor
    ·intro h; exact ⟨fun j hj => hall.out j (by omega), by omega, by omega⟩
    ·intro h; omega
   have HI := Shut.mk (fun W => isIn (s.size : Int) 1 8 W _ hin)
   clear hin hall
   go_wp2_with fail
   refine (HI.out _).mono ?_
   rintro e w1 ⟨rfl, hw⟩
   subst hw
   go_wp2_with fail
   go_ret
   exact ⟨rfl, hbl.out⟩
end Go.Proofs.YtakhagkhngmpaaaGreat
