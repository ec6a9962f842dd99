/- Texts of ours, laid one behind the other: Bytes, Draw, DrawB, RowsG, MemA, IntsA, NestA, SlG, GrwB, GrwC. -/
import Derived.Test.YtplcdcfhfaghiaaRows
import Derived.WalkKit
import Derived.WalkLawsBesides
import Derived.Handy
import Derived.Below
import Derived.Laws.IdiomStrings
import Derived.Laws.BytesArg
import Derived.Maps.AppendAt
import Derived.Laws.DeepStrings4
import Derived.PlainAid
import Derived.Deep.QuietTactic
import Derived.BigQuiet
import Derived.Deep.RegionHeld3
import Derived.Deep.DrawnRows
import Derived.OwnWalk
import Derived.OrdersHeld
/- Bytes: Rows of bytes that a call owns, and the string that is made of one: facts for the walks of this seat. -/
namespace Go.Proofs.Ytplcdcfhfaghiaa
set_option maxRecDepth 100000
open Go.RowKit

/-- Bytes as the cells of a row. -/
def bv (l : List UInt8) : List Value := l.map fun b => .int .u8 (b.toNat : Int)
theorem bv_nil : bv [] = [] := rfl
theorem bv_snoc (l : List UInt8) (b : UInt8) : bv l ++ [.int .u8 (b.toNat : Int)] = bv (l ++ [b]) := by simp [bv]
theorem bv_len (l : List UInt8) : (bv l).length = l.length := by simp [bv]
theorem byte_of (n : Int) (h0 : 0 ≤ n) (h1 : n < 256) : Value.int .u8 n = .int .u8 ((UInt8.ofNat n.toNat).toNat : Int) := by
  have : (UInt8.ofNat n.toNat).toNat = n.toNat := by simp; omega
  rw [this]; congr 1; omega

theorem Try.info5 : (Try.prog.info? 5).map (fun i => (i.zero, i.size, i.bytes)) = some (some (.int .u8 0), 1, 1) := by kernel_rfl

/-- The string of a row of bytes that a call owns. -/
theorem own_string {w : World} {base : Nat} {v : Value} {l : List UInt8} (h : w.ownsRow base 5 1 v l.length (bv l)) :
    (convert 22 9 v).run Try.prog w = .ok (.string ⟨l.toArray⟩) w := by
  have hc : ∀ g, v.ownBlock = some g → ∀ j u, (bv l)[j]? = some u → w.cell? ((⟨g, 0, none⟩ : Addr).add j) = some u := fun g hg => h.cells hg
  obtain ⟨h1, ⟨rfl, h0⟩ | ⟨g, cap, cur, rfl, _⟩⟩ := h
  · have : l = [] := List.eq_nil_of_length_eq_zero h0
    subst this
    exact run_convert_bytes_nil _ 22 5 Try.underlying22 Try.underlying5 0 0 _ Try.underlying9
  · exact run_convert_bytes_back w 22 9 5 ⟨g, 0, none⟩ cap l Try.underlying22 Try.underlying5 Try.underlying9 (fun j hj => hc g rfl j _ (by simp [bv, hj]))

/-- A part of a string. -/
theorem slice_str (s : ByteArray) (a b : Nat) (h1 : a ≤ b) (h2 : b ≤ s.size) (w : World) :
    (Instr.slice 9 (.string s) (some (.int .i64 (a : Int))) (some (.int .i64 (b : Int))) none).run Try.prog w = .ok (.string (s.extract a b)) w := by
  rw [run_slice_string_if w 9 s .i64 .i64 a b Try.underlying9, if_pos ⟨by omega, by omega⟩, if_pos ⟨by omega, by omega⟩]
  rfl
end Go.Proofs.Ytplcdcfhfaghiaa
/- Draw: The draws of the models: a cursor over the bytes of a code. What is drawn lies within its bounds; nothing but the cursor's own block is turned. -/
namespace Go.Proofs.Ytplcdcfhfaghiaa
set_option maxRecDepth 100000
open Go.RowKit
attribute [local go_sem ↓] Go.wp_at_zero Go.wp_at_succ

/-- The code that is drawn from: a slice of bytes that came in, below block B. -/
def CodeAt (w : World) (B : Nat) (a : Option Addr) (len : Nat) : Prop :=
  len ≤ 1048576 ∧ (0 < len → ∃ b off, a = some ⟨b, off, none⟩ ∧ b < B ∧ ∀ j, j < len → ∃ x : Int, w.cell? ⟨b, off + j, none⟩ = some (.int .u8 x) ∧ 0 ≤ x ∧ x ≤ 255)
/-- The cursor in block g. -/
def Cur (w : World) (g B : Nat) (a : Option Addr) (len cap : Nat) : Prop :=
  B ≤ g ∧ g < w.heap.size ∧ CodeAt w B a len ∧ w.cell? ⟨g, 0, none⟩ = some (.slice a len cap) ∧
  (∃ i : Nat, w.cell? ⟨g, 1, none⟩ = some (.int .i64 i) ∧ i ≤ len) ∧ (∃ h : Int, w.cell? ⟨g, 2, none⟩ = some (.int .i64 h)) ∧
  (∀ j, j < 3 → w.frozen? ⟨g, j, none⟩ = false)
def BytePost (w : World) (g B : Nat) (a : Option Addr) (len cap : Nat) (e : Ending) (w' : World) : Prop :=
  ∃ x : Int, e = .returned (.int .i64 x) ∧ 0 ≤ x ∧ x ≤ 255 ∧ Cur w' g B a len cap ∧ w.grownBy w' (some g)

theorem and255 (n : Int) : 0 ≤ bits .and .i64 n 255 ∧ bits .and .i64 n 255 ≤ 255 := by
  have h255 : (BitVec.ofInt 64 255).toNat = 2 ^ 8 - 1 := by decide
  have key : (BitVec.ofInt 64 n &&& BitVec.ofInt 64 255).toNat = (n % ((2 ^ 64 : Nat) : Int)).toNat % 2 ^ 8 := by
    rw [BitVec.toNat_and, BitVec.toNat_ofInt, h255, Nat.and_two_pow_sub_one_eq_mod]
  have e : bits .and .i64 n 255 = n % 256 := by
    show IntKind.i64.wrap ((BitVec.ofInt 64 n &&& BitVec.ofInt 64 255).toNat : Nat) = n % 256
    rw [key, IntKind.wrap_i64]
    omega
  rw [e]; omega
theorem gb_set (w : World) (g i : Nat) (v : Value) : w.grownBy (w.setCell ⟨g, i, none⟩ v) (some g) :=
  ⟨rfl, rfl, rfl, by simp [World.setCell], fun k _ hk => Below.heap_setCell _ _ _ _ (fun e => hk (by rw [e]))⟩
theorem gb_drewN (w : World) (q : Nat) (row : Option Nat) : w.grownBy (w.drewN q) row := ⟨rfl, rfl, rfl, Nat.le_refl _, fun _ _ _ => rfl⟩
theorem gb_two {a b c : World} {row : Option Nat} (h : a.grownBy b row) (k : b.grownBy c row) : a.grownBy c row :=
  ⟨k.os.trans h.os, k.tape.trans h.tape, k.output.trans h.output, Nat.le_trans h.size k.size, fun i hi hn => (k.block i (Nat.lt_of_lt_of_le hi h.size) hn).trans (h.block i hi hn)⟩
theorem gb_below {w w' : World} {row : Option Nat} (h : Below w.heap.size w w') : w.grownBy w' row := ⟨h.os, h.tape, h.output, h.size, fun k hk _ => h.block k hk⟩
theorem below_gb {w w' : World} {g B : Nat} (h : w.grownBy w' (some g)) (hB : B ≤ g) (hs : B ≤ w.heap.size) : Below B w w' :=
  ⟨h.os, h.tape, h.output, h.size, fun k hk => h.block k (by omega) (by simp; omega)⟩
theorem CodeAt.gb {w w' : World} {B g len : Nat} {a : Option Addr} (h : CodeAt w B a len) (hg : w.grownBy w' (some g)) (hB : B ≤ g) : CodeAt w' B a len := by
  refine ⟨h.1, fun hl => ?_⟩
  obtain ⟨b, off, rfl, hb, hx⟩ := h.2 hl
  refine ⟨b, off, rfl, hb, fun j hj => ?_⟩
  obtain ⟨x, hc, h0, h1⟩ := hx j hj
  exact ⟨x, hg.cell hc (by simp; omega), h0, h1⟩
theorem CodeAt.below {w w' : World} {B C len : Nat} {a : Option Addr} (h : CodeAt w B a len) (hb : Below C w w') (hC : B ≤ C) : CodeAt w' B a len := by
  refine ⟨h.1, fun hl => ?_⟩
  obtain ⟨b, off, rfl, hlt, hx⟩ := h.2 hl
  refine ⟨b, off, rfl, hlt, fun j hj => ?_⟩
  obtain ⟨x, hc, h0, h1⟩ := hx j hj
  exact ⟨x, (hb.cell (p := ⟨b, off + j, none⟩) (Nat.lt_of_lt_of_le hlt hC)).trans hc, h0, h1⟩
/-- New blocks, and what turns none of the cursor's: the cursor stands. -/
theorem Cur.below {w w' : World} {g B len cap : Nat} {a : Option Addr} (h : Cur w g B a len cap) (hb : Below w.heap.size w w') : Cur w' g B a len cap := by
  obtain ⟨hB, hg, hcode, c0, ⟨i, c1, hi⟩, ⟨k, c2⟩, hf⟩ := h
  exact ⟨hB, Nat.lt_of_lt_of_le hg hb.size, hcode.below hb (by omega), (hb.cell (p := ⟨g, 0, none⟩) hg).trans c0, ⟨i, (hb.cell (p := ⟨g, 1, none⟩) hg).trans c1, hi⟩, ⟨k, (hb.cell (p := ⟨g, 2, none⟩) hg).trans c2⟩,
    fun j hj => (hb.frozen (p := ⟨g, j, none⟩) hg).trans (hf j hj)⟩
theorem Cur.seth {w : World} {g B len cap : Nat} {a : Option Addr} (h : Cur w g B a len cap) (k : Int) : Cur (w.setCell ⟨g, 2, none⟩ (.int .i64 k)) g B a len cap := by
  obtain ⟨hB, hg, hcode, c0, ⟨i, c1, hi⟩, ⟨k', c2⟩, hf⟩ := h
  exact ⟨hB, by simpa [World.setCell] using hg, hcode.gb (gb_set _ _ _ _) hB, (World.cell?_setCell_other _ _ _ _ (by simp)).trans c0, ⟨i, (World.cell?_setCell_other _ _ _ _ (by simp)).trans c1, hi⟩, ⟨k, World.cell?_setCell_same _ _ _ c2⟩,
    fun j hj => (World.frozen?_setCell _ _ _ _).trans (hf j hj)⟩
theorem Cur.seti {w : World} {g B len cap : Nat} {a : Option Addr} (h : Cur w g B a len cap) (i : Nat) (hi : i ≤ len) : Cur (w.setCell ⟨g, 1, none⟩ (.int .i64 i)) g B a len cap := by
  obtain ⟨hB, hg, hcode, c0, ⟨i', c1, _⟩, ⟨k, c2⟩, hf⟩ := h
  exact ⟨hB, by simpa [World.setCell] using hg, hcode.gb (gb_set _ _ _ _) hB, (World.cell?_setCell_other _ _ _ _ (by simp)).trans c0, ⟨i, World.cell?_setCell_same _ _ _ c1, hi⟩, ⟨k, (World.cell?_setCell_other _ _ _ _ (by simp)).trans c2⟩,
    fun j hj => (World.frozen?_setCell _ _ _ _).trans (hf j hj)⟩
theorem drewN_bel (B : Nat) (w : World) (q : Nat) : Below B w (w.drewN q) := ⟨rfl, rfl, rfl, Nat.le_refl _, fun _ _ => rfl⟩
theorem byte_more {w : World} {g B len cap i : Nat} {a : Option Addr} (h : Cur w g B a len cap) (hi : i < len) (k : Int) (q : Nat) (y : Int) (hy : y = ((i + 1 : Nat) : Int)) (x : Int) (h0 : 0 ≤ x) (h1 : x ≤ 255) :
    BytePost w g B a len cap (.returned (.int .i64 x)) (((w.setCell ⟨g, 2, none⟩ (.int .i64 k)).drewN q).setCell ⟨g, 1, none⟩ (.int .i64 y)) := by
  subst hy
  exact ⟨x, rfl, h0, h1, (((h.seth k).below (drewN_bel _ _ _)).seti (i + 1) (by omega)), gb_two (gb_two (gb_set _ _ _ _) (gb_drewN _ _ _)) (gb_set _ _ _ _)⟩
theorem byte_over2 {w : World} {g B len cap : Nat} {a : Option Addr} (h : Cur w g B a len cap) (k : Int) (q q' : Nat) (x : Int) (h0 : 0 ≤ x) (h1 : x ≤ 255) :
    BytePost w g B a len cap (.returned (.int .i64 x)) (((w.setCell ⟨g, 2, none⟩ (.int .i64 k)).drewN q).drewN q') :=
  ⟨x, rfl, h0, h1, (((h.seth k).below (drewN_bel _ _ _)).below (drewN_bel _ _ _)), gb_two (gb_two (gb_set _ _ _ _) (gb_drewN _ _ _)) (gb_drewN _ _ _)⟩

set_option maxHeartbeats 1000000 in
theorem l01Byte_any (w : World) (g B : Nat) (a : Option Addr) (len cap : Nat) (hc : Cur w g B a len cap) :
    Calls Try.prog 50 #[.pointer (some ⟨g, 0, none⟩)] w fun e w' => BytePost w g B a len cap e w' := by
  have HC : Hid (Cur w g B a len cap) := hc
  obtain ⟨hB, hg, hcode, c0, ⟨i, c1, hi⟩, ⟨h, c2⟩, hf⟩ := hc
  have f1 := hf 1 (by omega)
  have f2 := hf 2 (by omega)
  have hl := hcode.1
  by_cases hlt : i < len
  · obtain ⟨b, off, rfl, hb, hcx⟩ := hcode.2 (by omega)
    obtain ⟨x, c3, x0, x1⟩ := hcx i hlt
    have i0 : (0 : Int) ≤ (i : Int) := by omega
    have i1 : (i : Int) < (len : Int) := by omega
    have hne : b ≠ g := by omega
    clear hcode hf hcx
    go_enter Try.func50, Try.ntmps50
    go_wp2_with fail
    go_quiet (fail)
    go_wp2_with fail
    go_quiet (fail)
    go_wp2_with fail
    go_quiet (fail)
    go_wp2_with fail
    go_ret
    exact byte_more HC.out hlt _ _ _ (by first | omega | (simp only [wrap64]; omega)) _ (and255 _).1 (and255 _).2
  · have i1 : decide ((i : Int) < (len : Int)) = false := by simp; omega
    clear hcode hf
    go_enter Try.func50, Try.ntmps50
    go_wp2_with fail
    go_quiet (fail)
    go_wp2_with fail
    go_quiet (fail)
    go_wp2_with fail
    go_ret
    exact byte_over2 HC.out _ _ _ _ (and255 _).1 (and255 _).2

def BelowPost (w : World) (g B : Nat) (a : Option Addr) (len cap : Nat) (n : Int) (e : Ending) (w' : World) : Prop :=
  ∃ x : Int, e = .returned (.int .i64 x) ∧ 0 ≤ x ∧ (x < n ∨ x = 0) ∧ Cur w' g B a len cap ∧ w.grownBy w' (some g)
set_option maxHeartbeats 1000000 in
theorem l01Below_any (w : World) (g B : Nat) (a : Option Addr) (len cap : Nat) (n : Int) (hn : n ≤ 9223372036854775807) (hc : Cur w g B a len cap) :
    Calls Try.prog 28 #[.pointer (some ⟨g, 0, none⟩), .int .i64 n] w fun e w' => BelowPost w g B a len cap n e w' := by
  have HC : Hid (Cur w g B a len cap) := hc
  clear hc
  by_cases h0 : n ≤ 0
  · go_enter Try.func28, Try.ntmps28
    go_wp2_with fail
    go_ret
    exact ⟨0, rfl, by omega, .inr rfl, HC.out, gb_drewN w 0 _⟩
  · by_cases h1 : n ≤ 256
    · have hnz : (n == 0) = false := by rw [beq_eq_false_iff_ne]; omega
      go_enter Try.func28, Try.ntmps28
      go_wp2_with fail
      refine (l01Byte_any _ g B a len cap HC.out).mono ?_
      rintro e w1 ⟨x, rfl, x0, x1, hc1, hg1⟩
      have HC1 : Hid (Cur w1 g B a len cap) := hc1
      have HG : Hid _ := hg1
      clear hc1 hg1
      go_wp2_with fail
      go_ret
      exact ⟨x % n, rfl, Int.emod_nonneg _ (by omega), .inl (Int.emod_lt_of_pos _ (by omega)), HC1.out, HG.out⟩
    · go_enter Try.func28, Try.ntmps28
      go_wp2_with fail
      refine (l01Byte_any _ g B a len cap HC.out).mono ?_
      rintro e w1 ⟨x, rfl, x0, x1, hc1, hg1⟩
      have HC1 : Hid (Cur w1 g B a len cap) := hc1
      have HG1 : Hid (w.grownBy w1 (some g)) := hg1
      clear hc1 hg1
      go_wp2_with fail
      refine (l01Byte_any _ g B a len cap HC1.out).mono ?_
      rintro e w2 ⟨y, rfl, y0, y1, hc2, hg2⟩
      have HC2 : Hid (Cur w2 g B a len cap) := hc2
      have HG2 : Hid (w.grownBy w2 (some g)) := gb_two HG1.out hg2
      clear hc2 hg2
      go_wp2_with fail
      refine (l01Byte_any _ g B a len cap HC2.out).mono ?_
      rintro e w3 ⟨z, rfl, z0, z1, hc3, hg3⟩
      have HC3 : Hid (Cur w3 g B a len cap) := hc3
      have HG3 : Hid (w.grownBy w3 (some g)) := gb_two HG2.out hg3
      clear hc3 hg3
      go_wp2_with fail
      refine (l01Byte_any _ g B a len cap HC3.out).mono ?_
      rintro e w4 ⟨u, rfl, u0, u1, hc4, hg4⟩
      have HC4 : Hid (Cur w4 g B a len cap) := hc4
      have HG4 : Hid (w.grownBy w4 (some g)) := gb_two HG3.out hg4
      clear hc4 hg4
      go_wp2_with fail
      go_ret
      exact ⟨(x * 16777216 + y * 65536 + z * 256 + u) % n, rfl, Int.emod_nonneg _ (by omega), .inl (Int.emod_lt_of_pos _ (by omega)), HC4.out, HG4.out⟩
end Go.Proofs.Ytplcdcfhfaghiaa
/- DrawB: The draws of the models, on: a new cursor, a text that is drawn, a long one, a choice. -/
namespace Go.Proofs.Ytplcdcfhfaghiaa
set_option maxRecDepth 100000
open Go.RowKit

def NewPost (w : World) (a : Option Addr) (len cap : Nat) (e : Ending) (w' : World) : Prop :=
  ∃ g, e = .returned (.pointer (some ⟨g, 0, none⟩)) ∧ w.heap.size ≤ g ∧ Cur w' g w.heap.size a len cap ∧ Below w.heap.size w w'
theorem new_post {w : World} {a : Option Addr} {len cap : Nat} (hc : CodeAt w w.heap.size a len) (h : Int) :
    NewPost w a len cap (.returned (.pointer (some ⟨w.heap.size, 0, none⟩))) (w.alloc (.cells #[.slice a len cap, .int .i64 0, .int .i64 h] 60)) := by
  have hb : Below w.heap.size w (w.alloc (.cells #[.slice a len cap, .int .i64 0, .int .i64 h] 60)) := (Below.refl _ _).alloc (Nat.le_refl _) _
  refine ⟨_, rfl, Nat.le_refl _, ⟨Nat.le_refl _, by simp, hc.below hb (Nat.le_refl _), ?_, ⟨0, ?_, Nat.zero_le _⟩, ⟨h, ?_⟩, fun j hj => ?_⟩, hb⟩
  · rw [World.cell?_alloc_mark]; rfl
  · rw [World.cell?_alloc_mark]; rfl
  · rw [World.cell?_alloc_mark]; rfl
  · rw [World.frozen?_alloc_mark]; simp

set_option maxRecDepth 100000 in
set_option maxHeartbeats 1000000 in
theorem l01New_any (w : World) (a : Option Addr) (len cap : Nat) (hc : CodeAt w w.heap.size a len) :
    Calls Try.prog 13 #[.slice a len cap] w fun e w' => NewPost w a len cap e w' := by
  have hl := hc.1
  go_enter Try.func13, Try.ntmps13
  go_wp2_with fail
  go_loop [3, 4] (fun h i => ∃ (k : Nat) (hh : Int), h = .int .i64 hh ∧ i = .int .i64 k ∧ k ≤ len) (fun _ i => len - (intOf i).toNat)
  case atStart => exact ⟨0, _, rfl, rfl, Nat.zero_le _⟩
  case round =>
    obtain ⟨k, hh, rfl, rfl, hk⟩ := hrel
    by_cases hlt : k < len
    · by_cases h4 : k < 4000
      · obtain ⟨b, off, rfl, hb, hx⟩ := hc.2 (by omega)
        obtain ⟨x, cx, x0, x1⟩ := hx k hlt
        have k0 : (0 : Int) ≤ (k : Int) := by omega
        have k1 : (k : Int) < (len : Int) := by omega
        clear hx
        go_wp2_with fail
        go_round
        case rel => exact ⟨k + 1, _, rfl, by go_num, by omega⟩
        case measure => simp [intOf]; omega
      · have h4' : ¬ (k : Int) < 4000 := by omega
        go_wp2_with fail
        go_ret
        exact new_post hc _
    · go_wp2_with fail
      go_ret
      exact new_post hc _

def OncePost (w : World) (g B : Nat) (a : Option Addr) (len cap : Nat) (e : Ending) (w' : World) : Prop :=
  ∃ b : Bool, e = .returned (.bool b) ∧ Cur w' g B a len cap ∧ w.grownBy w' (some g)
theorem l01Once_any (w : World) (g B : Nat) (a : Option Addr) (len cap : Nat) (n : Int) (hn : n ≤ 9223372036854775807) (hc : Cur w g B a len cap) :
    Calls Try.prog 37 #[.pointer (some ⟨g, 0, none⟩), .int .i64 n] w fun e w' => OncePost w g B a len cap e w' := by
  have HC : Hid (Cur w g B a len cap) := hc
  clear hc
  go_enter Try.func37, Try.ntmps37
  go_wp2_with fail
  refine (l01Below_any _ g B a len cap n hn HC.out).mono ?_
  rintro e w1 ⟨x, rfl, x0, x1, hc1, hg1⟩
  have HC1 : Hid (Cur w1 g B a len cap) := hc1
  have HG : Hid (w.grownBy w1 (some g)) := hg1
  clear hc1 hg1
  go_wp2_with fail
  go_ret
  exact ⟨x == 0, rfl, HC1.out, HG.out⟩

def TextPost (w : World) (g B : Nat) (a : Option Addr) (len cap : Nat) (n : Nat) (e : Ending) (w' : World) : Prop :=
  ∃ t : ByteArray, e = .returned (.string t) ∧ t.size ≤ n ∧ Cur w' g B a len cap ∧ w.grownBy w' (some g)
def TextIs (w : World) (g B : Nat) (a : Option Addr) (len cap : Nat) (n : Nat) (e : Ending) (w' : World) : Prop :=
  ∃ t : ByteArray, e = .returned (.string t) ∧ t.size = n ∧ Cur w' g B a len cap ∧ w.grownBy w' (some g)
theorem text_step {w wr w2 w3 : World} {g B len cap : Nat} {a : Option Addr} {v v' : Value} {l : List UInt8} {x : Int} {o : Obj} (x0 : 0 ≤ x) (x1 : x ≤ 255) (hs : w.heap.size ≤ wr.heap.size) (hgw : g < w.heap.size)
    (hg : w.grownBy wr (some g)) (hg2 : wr.grownBy w2 (some g)) (hc2 : Cur w2 g B a len cap) (hown : w2.ownsRow w.heap.size 5 1 v l.length (bv l))
    (hown' : w3.ownsRow w.heap.size 5 1 v' (l.length + 1) (bv l ++ [.int .u8 x])) (hgr : (w2.alloc o).grownBy w3 v.ownBlock) :
    Cur w3 g B a len cap ∧ w.grownBy w3 (some g) ∧ w3.ownsRow w.heap.size 5 1 v' (l ++ [UInt8.ofNat x.toNat]).length (bv (l ++ [UInt8.ofNat x.toNat])) := by
  have hlt := hown.lt
  have h2s : wr.heap.size ≤ w2.heap.size := hg2.size
  have hb3 : Below w.heap.size w2 w3 := ((Below.refl _ _).alloc (by omega) o).grown hgr (by simp; omega) (fun j hj => (hlt j hj).1)
  refine ⟨?_, ⟨(hb3.os.trans hg2.os).trans hg.os, (hb3.tape.trans hg2.tape).trans hg.tape, (hb3.output.trans hg2.output).trans hg.output, by have := hb3.size; omega, fun k hk hn => (hb3.block k hk).trans ((hg2.block k (by omega) hn).trans (hg.block k hk hn))⟩, ?_⟩
  · obtain ⟨hB, hgs, hcode, c0, ⟨i, c1, hi⟩, ⟨k, c2⟩, hf⟩ := hc2
    refine ⟨hB, by have := hb3.size; omega, hcode.below hb3 (by omega), (hb3.cell (p := ⟨g, 0, none⟩) hgw).trans c0, ⟨i, (hb3.cell (p := ⟨g, 1, none⟩) hgw).trans c1, hi⟩, ⟨k, (hb3.cell (p := ⟨g, 2, none⟩) hgw).trans c2⟩, fun j hj => (hb3.frozen (p := ⟨g, j, none⟩) hgw).trans (hf j hj)⟩
  · rw [byte_of x x0 (by omega), bv_snoc] at hown'
    simpa using hown'
theorem own_gb {w w' : World} {g C : Nat} {v : Value} {l : List UInt8} (h : w.ownsRow C 5 1 v l.length (bv l)) (hg : w.grownBy w' (some g)) (hC : g < C) : w'.ownsRow C 5 1 v l.length (bv l) :=
  h.kept hg (by
    cases hv : v.ownBlock with
    | none => exact .inl rfl
    | some j => right; have := (h.lt j hv).1; simp; omega)

set_option maxHeartbeats 1000000 in
theorem l01Text_len (w : World) (g B : Nat) (a : Option Addr) (len cap : Nat) (n : Nat) (hn : n ≤ 5000) (hc : Cur w g B a len cap) :
    Calls Try.prog 29 #[.pointer (some ⟨g, 0, none⟩), .int .i64 n] w fun e w' => TextIs w g B a len cap n e w' := by
  obtain ⟨i0, hi, hz0, hz1, hz2⟩ := info_parts Try.info5
  have hgw := hc.2.1
  have HC : Hid (Cur w g B a len cap) := hc
  clear hc
  have hnd : decide ((5000 : Int) < n) = false := by simp; omega
  go_enter Try.func29, Try.ntmps29
  go_wp2_with fail
  go_loopw [5, 6] (fun v i wr => ∃ (k : Nat) (l : List UInt8), i = .int .i64 k ∧ k ≤ n ∧ l.length = k ∧ Cur wr g B a len cap ∧ w.grownBy wr (some g) ∧ wr.ownsRow w.heap.size 5 1 v l.length (bv l)) (fun _ i _ => n - (intOf i).toNat)
  case atStart => exact ⟨0, [], rfl, by omega, rfl, HC.out.below ((Below.refl _ _).alloc (Nat.le_refl _) _), gb_below ((Below.refl _ _).alloc (Nat.le_refl _) _), World.ownsRow_made w #[] 0 (Nat.le_refl _) (by decide) rfl⟩
  case round =>
    obtain ⟨k, l, rfl, hk, hlk, hc1, hg1, hown⟩ := hrel
    have HC1 : Hid (Cur wr g B a len cap) := hc1
    have HG1 : Hid (w.grownBy wr (some g)) := hg1
    have HL : Hid (l.length = k) := hlk
    have hll : l.length ≤ 5000 := by omega
    have hs1 := hg1.size
    clear hc1 hg1 hlk
    by_cases hlt : k < n
    · go_wp2_with fail
      refine (l01Byte_any _ g B a len cap HC1.out).mono ?_
      rintro e w2 ⟨x, rfl, x0, x1, hc2, hg2⟩
      have HC2 : Hid (Cur w2 g B a len cap) := hc2
      have HG2 : Hid (wr.grownBy w2 (some g)) := hg2
      have hown2 := own_gb hown hg2 hgw
      have hs2 := hg2.size
      clear hc2 hg2 hown
      go_wp2_with (at_builtin; refine wpList_append_own _ rfl _ _ 22 rfl w.heap.size 5 i0 (.int .u8 0) 1 1 Try.underlying22 hi hz0 hz1 hz2 rfl (by decide) _ _ _ rfl (hown2.alloc _) ⟨w2.heap.size, 0, none⟩ 1 1 [.int .u8 _] rfl rfl (cell_one_new _ _ _) ?c2 ?c3 ?c4 ?c5 ?_)
      case c2 => first | rfl | (intro u hu; simp at hu; subst hu; rfl)
      case c3 => unfold maxLen; omega
      case c4 => omega
      case c5 => first | omega | (simp; omega)
      · intro v' w3 hown' hgrow _
        obtain ⟨q1, q2, q3⟩ := text_step x0 x1 hs1 hgw HG1.out HG2.out HC2.out hown2 hown' hgrow
        clear hown' hgrow hown2
        go_wp2_with fail
        go_roundw
        case rel => exact ⟨k + 1, _, by go_num, by omega, by have := HL.out; simp; omega, q1, q2, q3⟩
        case measure => simp [intOf]; omega
    · have hcv := own_string hown
      go_wp2_with fail
      go_ret
      exact ⟨⟨l.toArray⟩, rfl, by have := HL.out; show l.length = n; omega, HC1.out, HG1.out⟩
theorem l01Text_any (w : World) (g B : Nat) (a : Option Addr) (len cap : Nat) (n : Nat) (hn : n ≤ 5000) (hc : Cur w g B a len cap) :
    Calls Try.prog 29 #[.pointer (some ⟨g, 0, none⟩), .int .i64 n] w fun e w' => TextPost w g B a len cap n e w' :=
  (l01Text_len w g B a len cap n hn hc).mono fun _ _ ⟨t, he, hs, h⟩ => ⟨t, he, Nat.le_of_eq hs, h⟩
end Go.Proofs.Ytplcdcfhfaghiaa
/- RowsG: Rows of cells in memory, for elements of any number of cells: what a row holds, and a row that may be written. Nothing of the program is read here. -/
namespace Go.Proofs.Ytplcdcfhfaghiaa
set_option maxRecDepth 100000
open Go.RowKit

theorem flat_len {α : Type} {enc : α → List Value} {sz : Nat} (hsz : ∀ x, (enc x).length = sz) (xs : List α) : (xs.flatMap enc).length = xs.length * sz := by
  induction xs with
  | nil => simp
  | cons x xs ih => simp only [List.flatMap_cons, List.length_append, List.length_cons, ih, hsz, Nat.add_mul]; omega
theorem flat_get {α : Type} {enc : α → List Value} {sz : Nat} (hsz : ∀ x, (enc x).length = sz) (xs : List α) (j : Nat) (h : j < xs.length) (i : Nat) (hi : i < sz) : (xs.flatMap enc)[j * sz + i]? = (enc xs[j])[i]? := by
  induction xs generalizing j with
  | nil => simp at h
  | cons x xs ih =>
    rw [List.flatMap_cons]
    cases j with
    | zero =>
      rw [List.getElem?_append_left (by rw [hsz]; omega)]
      simp
    | succ j =>
      rw [List.getElem?_append_right (by rw [hsz, Nat.add_mul]; omega), hsz]
      have := ih j (by simpa using h)
      rw [show (j + 1) * sz + i - sz = j * sz + i by rw [Nat.add_mul]; omega]
      simpa using this
theorem flat_set {α : Type} {enc : α → List Value} {sz : Nat} (hsz : ∀ x, (enc x).length = sz) (xs : List α) (j : Nat) (h : j < xs.length) (y : α) (n : Nat) (hn : n < xs.length * sz) :
    ((xs.set j y).flatMap enc)[n]? = if n / sz = j then (enc y)[n % sz]? else (xs.flatMap enc)[n]? := by
  have hp : 0 < sz := by
    cases sz with
    | zero => simp at hn
    | succ s => omega
  have hq : n / sz < xs.length := Nat.div_lt_of_lt_mul (by rwa [Nat.mul_comm] at hn)
  have hr := Nat.mod_lt n hp
  have e : n = n / sz * sz + n % sz := by rw [Nat.mul_comm]; exact (Nat.div_add_mod n sz).symm
  have l1 := flat_get hsz (xs.set j y) (n / sz) (by simpa using hq) (n % sz) hr
  have l2 := flat_get hsz xs (n / sz) hq (n % sz) hr
  rw [← e] at l1 l2
  rw [l1, l2]
  by_cases c : n / sz = j
  · subst c; simp
  · rw [if_neg c, List.getElem_set_ne (Ne.symm c)]

/-- A row of cells, from a place on. -/
def CRow (w : World) (a : Option Addr) (L : List Value) : Prop :=
  0 < L.length → ∃ b off, a = some ⟨b, off, none⟩ ∧ b < w.heap.size ∧ ∀ i v, L[i]? = some v → w.cell? ⟨b, off + i, none⟩ = some v
theorem CRow.stays {w w' : World} {a : Option Addr} {L : List Value} (h : CRow w a L) (hb : Below w.heap.size w w') : CRow w' a L := by
  intro hp
  obtain ⟨b, off, e, hlt, hc⟩ := h hp
  exact ⟨b, off, e, Nat.lt_of_lt_of_le hlt hb.size, fun i v hv => by rw [hb.cell (p := ⟨b, off + i, none⟩) hlt]; exact hc i v hv⟩
/-- A row of cells that may be written, in a block of its own. -/
def WCells (w : World) (g : Nat) (L : List Value) : Prop :=
  g < w.heap.size ∧ ∀ i v, L[i]? = some v → w.cell? ⟨g, i, none⟩ = some v ∧ w.frozen? ⟨g, i, none⟩ = false
theorem WCells.crow {w : World} {g : Nat} {L : List Value} (h : WCells w g L) : CRow w (some ⟨g, 0, none⟩) L := fun _ => ⟨g, 0, rfl, h.1, fun i v hv => by rw [Nat.zero_add]; exact (h.2 i v hv).1⟩
theorem WCells.below {w w' : World} {g B : Nat} {L : List Value} (h : WCells w g L) (hb : Below B w w') (hg : g < B) : WCells w' g L :=
  ⟨Nat.lt_of_lt_of_le h.1 hb.size, fun i v hv => ⟨(hb.cell (p := ⟨g, i, none⟩) hg).trans (h.2 i v hv).1, (hb.frozen (p := ⟨g, i, none⟩) hg).trans (h.2 i v hv).2⟩⟩
theorem WCells.set {w : World} {g : Nat} {L : List Value} (h : WCells w g L) (i : Nat) (x : Value) (hi : i < L.length) : WCells (w.setCell ⟨g, i, none⟩ x) g (L.set i x) := by
  refine ⟨by have := h.1; simpa [World.setCell] using this, fun j v hv => ?_⟩
  have hj : j < L.length := by
    have := (List.getElem?_eq_some_iff.1 hv).1
    simpa using this
  have hold := h.2 j L[j] (List.getElem?_eq_getElem hj)
  refine ⟨?_, (World.frozen?_setCell _ _ _ _).trans hold.2⟩
  by_cases e : j = i
  · subst e
    rw [World.cell?_setCell_same _ _ _ hold.1]
    rw [List.getElem?_set_self hi] at hv
    exact hv
  · rw [World.cell?_setCell_other _ _ _ _ (by first | (simp; done) | (simp; omega)), hold.1]
    rw [List.getElem?_set_ne (Ne.symm e), List.getElem?_eq_getElem hj] at hv
    exact hv
theorem own_wcells {w : World} {B g n cap t sz : Nat} {L : List Value} (h : w.ownsRow B t sz (.slice (some ⟨g, 0, none⟩) n cap) n L) : WCells w g L := by
  have hc := h.cells (g := g) rfl
  have hlt := h.lt g rfl
  obtain ⟨_, ⟨h0, _⟩ | ⟨g', cap', cur, he, hB, hcur, _, _, _, _⟩⟩ := h
  · cases h0
  · have eg : g' = g := by simp at he; exact he.1.symm
    subst eg
    refine ⟨hlt.2, fun j v hj => ⟨?_, ?_⟩⟩
    · have := hc j v hj
      have e : (⟨g', 0, none⟩ : Addr).add j = ⟨g', j, none⟩ := by cases j <;> simp [Addr.add]
      rw [e] at this
      exact this
    · unfold World.frozen?
      rw [hcur]; simp

/-- Cells laid one behind the other: in a list, and in a world. -/
def setL (L : List Value) (off : Nat) : List Value → List Value
  | [] => L
  | v :: vs => setL (L.set off v) (off + 1) vs
def setW (w : World) (g off : Nat) : List Value → World
  | [] => w
  | v :: vs => setW (w.setCell ⟨g, off, none⟩ v) g (off + 1) vs
theorem setL_cons (c : Value) (L : List Value) (off : Nat) (vs : List Value) : setL (c :: L) (off + 1) vs = c :: setL L off vs := by
  induction vs generalizing L off with
  | nil => rfl
  | cons v vs ih => simp only [setL, List.set_cons_succ]; exact ih _ _
theorem setL_app (A L : List Value) (off : Nat) (vs : List Value) : setL (A ++ L) (A.length + off) vs = A ++ setL L off vs := by
  induction A with
  | nil => simp
  | cons a A ih => rw [List.cons_append, List.length_cons, show A.length + 1 + off = (A.length + off) + 1 by omega, setL_cons, ih]; rfl
theorem setL_head (A R B : List Value) (h : A.length = B.length) : setL (A ++ R) 0 B = B ++ R := by
  induction B generalizing A with
  | nil => simp at h; subst h; rfl
  | cons b B ih =>
    cases A with
    | nil => simp at h
    | cons a A =>
      simp only [List.cons_append, setL, List.set_cons_zero, setL_cons]
      rw [ih A (by simpa using h)]
theorem flat_setL {α : Type} {enc : α → List Value} {sz : Nat} (hsz : ∀ x, (enc x).length = sz) (xs : List α) (j : Nat) (h : j < xs.length) (y : α) : setL (xs.flatMap enc) (j * sz) (enc y) = (xs.set j y).flatMap enc := by
  induction xs generalizing j with
  | nil => simp at h
  | cons x xs ih =>
    cases j with
    | zero =>
      simp only [Nat.zero_mul, List.flatMap_cons, List.set_cons_zero]
      exact setL_head _ _ _ (by rw [hsz, hsz])
    | succ j =>
      simp only [List.flatMap_cons, List.set_cons_succ]
      rw [show (j + 1) * sz = (enc x).length + j * sz by rw [hsz, Nat.add_mul]; omega, setL_app, ih j (by simpa using h)]
theorem setL_len (L : List Value) (off : Nat) (vs : List Value) : (setL L off vs).length = L.length := by
  induction vs generalizing L off with
  | nil => rfl
  | cons v vs ih => simp only [setL]; rw [ih]; simp
theorem WCells.setW {w : World} {g : Nat} {L : List Value} (h : WCells w g L) (off : Nat) (vs : List Value) (hl : off + vs.length ≤ L.length) : WCells (setW w g off vs) g (setL L off vs) := by
  induction vs generalizing w L off with
  | nil => exact h
  | cons v vs ih =>
    simp only [List.length_cons] at hl
    exact ih (h.set off v (by omega)) (off + 1) (by rw [List.length_set]; omega)
/-- An element of a row is laid anew. -/
theorem WCells.setElem {α : Type} {enc : α → List Value} {sz : Nat} (hsz : ∀ x, (enc x).length = sz) {w : World} {g : Nat} {xs : List α} (h : WCells w g (xs.flatMap enc)) (j : Nat) (hj : j < xs.length) (y : α) :
    WCells (Go.Proofs.Ytplcdcfhfaghiaa.setW w g (j * sz) (enc y)) g ((xs.set j y).flatMap enc) := by
  have hl : j * sz + (enc y).length ≤ (xs.flatMap enc).length := by
    rw [hsz, flat_len hsz]
    have := Nat.mul_le_mul_right sz (show j + 1 ≤ xs.length by omega)
    rw [Nat.add_mul] at this; omega
  have := h.setW (j * sz) (enc y) hl
  rwa [flat_setL hsz xs j hj y] at this
theorem below_setW {B g : Nat} {a w : World} (h : Below B a w) (hg : B ≤ g) (off : Nat) (vs : List Value) : Below B a (setW w g off vs) := by
  induction vs generalizing w off with
  | nil => exact h
  | cons v vs ih => exact ih (h.setCell (p := ⟨g, off, none⟩) hg v) _
/-- What 'make' lays, for elements of some cells. -/
theorem made_flat {α : Type} {enc : α → List Value} {sz : Nat} (hsz : ∀ x, (enc x).length = sz) (hp : 0 < sz) (z : Array Value) (d : α) (hz : z.toList = enc d) (n : Nat) : (madeCells z (n * sz)).toList = (List.replicate n d).flatMap enc := by
  have hzs : z.size = sz := by rw [← Array.length_toList, hz, hsz]
  apply List.ext_getElem?
  intro i
  by_cases hi : i < n * sz
  · have hq : i / sz < n := Nat.div_lt_of_lt_mul (by rwa [Nat.mul_comm] at hi)
    have hr := Nat.mod_lt i hp
    have e : i = i / sz * sz + i % sz := by rw [Nat.mul_comm]; exact (Nat.div_add_mod i sz).symm
    have l1 := flat_get hsz (List.replicate n d) (i / sz) (by simpa using hq) (i % sz) hr
    rw [← e] at l1
    rw [l1, List.getElem_replicate, ← hz]
    unfold madeCells
    have h3 : i % sz < z.size := by omega
    simp [hi, hzs]
    rw [getElem!_pos z (i % sz) h3, Array.getElem?_eq_getElem h3]
  · rw [List.getElem?_eq_none (by rw [Array.length_toList, size_madeCells]; omega), List.getElem?_eq_none (by rw [flat_len hsz]; simp; omega)]
theorem wcells_new (w : World) (cs : Array Value) (t : TypeId) : WCells (w.alloc (.cells cs t)) w.heap.size cs.toList := by
  refine ⟨by simp, fun i v hv => ⟨?_, ?_⟩⟩
  · rw [World.cell?_alloc_new]; simpa using hv
  · unfold World.frozen?
    rw [heap_alloc_new]; simp
theorem WCells.alloc {w : World} {g : Nat} {L : List Value} (h : WCells w g L) (o : Obj) : WCells (w.alloc o) g L := h.below ((Below.refl _ _).alloc (Nat.le_refl _) o) h.1
theorem WCells.grow {w w' : World} {g : Nat} {L : List Value} (h : WCells w g L) (hb : Below w.heap.size w w') : WCells w' g L := h.below hb h.1
theorem WCells.other {w : World} {g : Nat} {L : List Value} (h : WCells w g L) (p : Addr) (x : Value) (hp : g ≠ p.block) : WCells (w.setCell p x) g L := by
  refine ⟨by have := h.1; simpa [World.setCell] using this, fun j v hv => ?_⟩
  have hold := h.2 j v hv
  refine ⟨?_, (World.frozen?_setCell _ _ _ _).trans hold.2⟩
  rw [← hold.1]
  exact World.cell?_of_block (Below.heap_setCell w p x g hp)
/-- A fact that no tactic parts. -/
structure Shut (p : Prop) : Prop where
  out : p
end Go.Proofs.Ytplcdcfhfaghiaa
/- MemA: What lies in memory through a law: boxes, and rows of their own. -/
namespace Go.Proofs.Ytplcdcfhfaghiaa
set_option maxRecDepth 100000
open Go.RowKit

theorem wc_grown {w w' : World} {g : Nat} {row : Option Nat} {L : List Value} (h : WCells w g L) (hg : w.grownBy w' row) (hr : row ≠ some g) : WCells w' g L := by
  have hblk := hg.block g h.1 (fun e => hr e.symm)
  refine ⟨Nat.lt_of_lt_of_le h.1 hg.size, fun i v hv => ⟨?_, ?_⟩⟩
  · rw [World.cell?_of_block (w := w) hblk]; exact (h.2 i v hv).1
  · rw [World.frozen?_of_block (w := w) hblk]; exact (h.2 i v hv).2
/-- A row of its own between two places, or none. -/
def FRw (w : World) (va : Option Addr) (X : List Value) (lo hi : Nat) : Prop := (va = none ∧ X = []) ∨ ∃ g, va = some ⟨g, 0, none⟩ ∧ lo ≤ g ∧ g < hi ∧ WCells w g X
theorem FRw.crow {w : World} {va : Option Addr} {X : List Value} {lo hi : Nat} (h : FRw w va X lo hi) : CRow w va X := by
  rcases h with ⟨_, rfl⟩ | ⟨g, rfl, _, _, h⟩
  · intro hp; simp at hp
  · exact h.crow
theorem FRw.below {w w' : World} {va : Option Addr} {X : List Value} {lo hi : Nat} (h : FRw w va X lo hi) (hb : Below w.heap.size w w') : FRw w' va X lo hi := by
  rcases h with h | ⟨g, h1, h2, h3, h⟩
  · exact .inl h
  · exact .inr ⟨g, h1, h2, h3, h.grow hb⟩
theorem FRw.grown {w w' : World} {va : Option Addr} {X : List Value} {lo hi : Nat} {row : Option Nat} (h : FRw w va X lo hi) (hg : w.grownBy w' row) (hr : ∀ g, row = some g → g < lo ∨ hi ≤ g) : FRw w' va X lo hi := by
  rcases h with h | ⟨g, h1, h2, h3, h⟩
  · exact .inl h
  · exact .inr ⟨g, h1, h2, h3, wc_grown h hg (fun e => by rcases hr g e with h | h <;> omega)⟩
theorem FRw.of_wcells {w : World} {g lo hi : Nat} {X : List Value} (h : WCells w g X) (h1 : lo ≤ g) (h2 : g < hi) : FRw w (some ⟨g, 0, none⟩) X lo hi := .inr ⟨g, rfl, h1, h2, h⟩
theorem FRw.wcells {w : World} {g lo hi : Nat} {X : List Value} (h : FRw w (some ⟨g, 0, none⟩) X lo hi) : WCells w g X := by
  rcases h with ⟨h, _⟩ | ⟨g', e, _, _, h⟩
  · cases h
  · have : g = g' := by simpa using e
    subst this; exact h
theorem FRw.of_own {w : World} {B n c t sz : Nat} {va : Option Addr} {X : List Value} (h : w.ownsRow B t sz (.slice va n c) n X) : FRw w va X B w.heap.size ∧ n ≤ c := by
  have h' := h
  rcases h.2 with ⟨h0, hX⟩ | ⟨g, cap, cur, he, hB, hcur, hn, _, _, _⟩
  · simp only [Value.slice.injEq] at h0
    obtain ⟨rfl, h1, rfl⟩ := h0
    refine ⟨.inl ⟨rfl, ?_⟩, by omega⟩
    have hl := h'.1
    rw [hX, Nat.zero_mul] at hl
    exact List.eq_nil_of_length_eq_zero hl
  · simp only [Value.slice.injEq] at he
    obtain ⟨rfl, _, rfl⟩ := he
    exact ⟨.inr ⟨g, rfl, hB, (Array.getElem?_eq_some_iff.1 hcur).1, own_wcells h'⟩, hn⟩
/-- Boxes and rows that lie in a world; what was there at the start is as it was. -/
structure Mem (w0 w : World) (L : List (Nat × List Value)) (R : List (Option Addr × List Value × Nat × Nat)) : Prop where
  cells : ∀ p ∈ L, WCells w p.1 p.2
  rows : ∀ r ∈ R, FRw w r.1 r.2.1 r.2.2.1 r.2.2.2
  low : Below w0.heap.size w0 w
theorem Mem.below {w0 w w' : World} {L : List (Nat × List Value)} {R : List (Option Addr × List Value × Nat × Nat)} (M : Mem w0 w L R) (hb : Below w.heap.size w w') : Mem w0 w' L R :=
  ⟨fun p hp => (M.cells p hp).grow hb, fun r hr => (M.rows r hr).below hb, M.low.trans (hb.mono M.low.size)⟩
theorem Mem.alloc {w0 w : World} {L : List (Nat × List Value)} {R : List (Option Addr × List Value × Nat × Nat)} (M : Mem w0 w L R) (o : Obj) : Mem w0 (w.alloc o) L R := M.below ((Below.refl _ _).alloc (Nat.le_refl _) o)
theorem Mem.drew {w0 w : World} {L : List (Nat × List Value)} {R : List (Option Addr × List Value × Nat × Nat)} (M : Mem w0 w L R) : Mem w0 w.drew L R := ⟨fun p hp => M.cells p hp, fun r hr => M.rows r hr, M.low.drew⟩
theorem Mem.box {w0 w : World} {L : List (Nat × List Value)} {R : List (Option Addr × List Value × Nat × Nat)} (M : Mem w0 w L R) (cs : Array Value) (t : TypeId) : Mem w0 (w.alloc (.cells cs t)) ((w.heap.size, cs.toList) :: L) R := by
  refine ⟨fun p hp => ?_, (M.alloc _).rows, (M.alloc _).low⟩
  rcases List.mem_cons.1 hp with rfl | h
  · exact wcells_new w cs t
  · exact (M.alloc _).cells p h
theorem Mem.row {w0 w : World} {L : List (Nat × List Value)} {R : List (Option Addr × List Value × Nat × Nat)} (M : Mem w0 w L R) {va : Option Addr} {X : List Value} {lo hi : Nat} (h : FRw w va X lo hi) : Mem w0 w L ((va, X, lo, hi) :: R) := by
  refine ⟨M.cells, fun r hr => ?_, M.low⟩
  rcases List.mem_cons.1 hr with rfl | h'
  · exact h
  · exact M.rows r h'
theorem Mem.less {w0 w : World} {L L' : List (Nat × List Value)} {R R' : List (Option Addr × List Value × Nat × Nat)} (M : Mem w0 w L R) (hL : ∀ p ∈ L', p ∈ L) (hR : ∀ r ∈ R', r ∈ R) : Mem w0 w L' R' := ⟨fun p hp => M.cells p (hL p hp), fun r hr => M.rows r (hR r hr), M.low⟩
theorem Mem.grown {w0 w w' : World} {L : List (Nat × List Value)} {R : List (Option Addr × List Value × Nat × Nat)} {row : Option Nat} (M : Mem w0 w L R) (hg : w.grownBy w' row) (hL : ∀ p ∈ L, ∀ g, row = some g → g ≠ p.1) (hR : ∀ r ∈ R, ∀ g, row = some g → g < r.2.2.1 ∨ r.2.2.2 ≤ g) (h0 : ∀ g, row = some g → w0.heap.size ≤ g) : Mem w0 w' L R :=
  ⟨fun p hp => wc_grown (M.cells p hp) hg (fun e => hL p hp _ e rfl), fun r hr => (M.rows r hr).grown hg (hR r hr), M.low.grown hg M.low.size h0⟩
theorem Mem.cell {w0 w : World} {L : List (Nat × List Value)} {R : List (Option Addr × List Value × Nat × Nat)} (M : Mem w0 w L R) {g : Nat} {v : Value} (h : (g, [v]) ∈ L) : w.cell? ⟨g, 0, none⟩ = some v := ((M.cells _ h).2 0 _ rfl).1
theorem Mem.lt {w0 w : World} {L : List (Nat × List Value)} {R : List (Option Addr × List Value × Nat × Nat)} (M : Mem w0 w L R) {g : Nat} {X : List Value} (h : (g, X) ∈ L) : g < w.heap.size := (M.cells _ h).1
theorem Mem.at {w0 w : World} {L : List (Nat × List Value)} {R : List (Option Addr × List Value × Nat × Nat)} (M : Mem w0 w L R) {va : Option Addr} {X : List Value} {lo hi : Nat} (h : (va, X, lo, hi) ∈ R) : FRw w va X lo hi := M.rows _ h

theorem Mem.at0 {w0 w : World} {L : List (Nat × List Value)} {R : List (Option Addr × List Value × Nat × Nat)} {va : Option Addr} {X : List Value} {lo hi : Nat} (M : Mem w0 w L ((va, X, lo, hi) :: R)) : FRw w va X lo hi := M.rows _ (List.mem_cons_self ..)
theorem Mem.cell0 {w0 w : World} {L : List (Nat × List Value)} {R : List (Option Addr × List Value × Nat × Nat)} {g : Nat} {v : Value} (M : Mem w0 w ((g, [v]) :: L) R) : w.cell? ⟨g, 0, none⟩ = some v := M.cell (List.mem_cons_self ..)
theorem Mem.lt0 {w0 w : World} {L : List (Nat × List Value)} {R : List (Option Addr × List Value × Nat × Nat)} {g : Nat} {X : List Value} (M : Mem w0 w ((g, X) :: L) R) : g < w.heap.size := M.lt (List.mem_cons_self ..)
theorem Mem.at1 {w0 w : World} {L : List (Nat × List Value)} {R : List (Option Addr × List Value × Nat × Nat)} {r0 : Option Addr × List Value × Nat × Nat} {va : Option Addr} {X : List Value} {lo hi : Nat} (M : Mem w0 w L (r0 :: (va, X, lo, hi) :: R)) : FRw w va X lo hi := M.rows _ (List.mem_cons_of_mem _ (List.mem_cons_self ..))
theorem Mem.cell1 {w0 w : World} {L : List (Nat × List Value)} {R : List (Option Addr × List Value × Nat × Nat)} {p0 : Nat × List Value} {g : Nat} {v : Value} (M : Mem w0 w (p0 :: (g, [v]) :: L) R) : w.cell? ⟨g, 0, none⟩ = some v := M.cell (List.mem_cons_of_mem _ (List.mem_cons_self ..))
theorem Mem.lt1 {w0 w : World} {L : List (Nat × List Value)} {R : List (Option Addr × List Value × Nat × Nat)} {p0 : Nat × List Value} {g : Nat} {X : List Value} (M : Mem w0 w (p0 :: (g, X) :: L) R) : g < w.heap.size := M.lt (List.mem_cons_of_mem _ (List.mem_cons_self ..))
theorem Mem.at2 {w0 w : World} {L : List (Nat × List Value)} {R : List (Option Addr × List Value × Nat × Nat)} {r0 : Option Addr × List Value × Nat × Nat} {r1 : Option Addr × List Value × Nat × Nat} {va : Option Addr} {X : List Value} {lo hi : Nat} (M : Mem w0 w L (r0 :: r1 :: (va, X, lo, hi) :: R)) : FRw w va X lo hi := M.rows _ (List.mem_cons_of_mem _ (List.mem_cons_of_mem _ (List.mem_cons_self ..)))
theorem Mem.cell2 {w0 w : World} {L : List (Nat × List Value)} {R : List (Option Addr × List Value × Nat × Nat)} {p0 : Nat × List Value} {p1 : Nat × List Value} {g : Nat} {v : Value} (M : Mem w0 w (p0 :: p1 :: (g, [v]) :: L) R) : w.cell? ⟨g, 0, none⟩ = some v := M.cell (List.mem_cons_of_mem _ (List.mem_cons_of_mem _ (List.mem_cons_self ..)))
theorem Mem.lt2 {w0 w : World} {L : List (Nat × List Value)} {R : List (Option Addr × List Value × Nat × Nat)} {p0 : Nat × List Value} {p1 : Nat × List Value} {g : Nat} {X : List Value} (M : Mem w0 w (p0 :: p1 :: (g, X) :: L) R) : g < w.heap.size := M.lt (List.mem_cons_of_mem _ (List.mem_cons_of_mem _ (List.mem_cons_self ..)))
theorem Mem.at3 {w0 w : World} {L : List (Nat × List Value)} {R : List (Option Addr × List Value × Nat × Nat)} {r0 : Option Addr × List Value × Nat × Nat} {r1 : Option Addr × List Value × Nat × Nat} {r2 : Option Addr × List Value × Nat × Nat} {va : Option Addr} {X : List Value} {lo hi : Nat} (M : Mem w0 w L (r0 :: r1 :: r2 :: (va, X, lo, hi) :: R)) : FRw w va X lo hi := M.rows _ (List.mem_cons_of_mem _ (List.mem_cons_of_mem _ (List.mem_cons_of_mem _ (List.mem_cons_self ..))))
theorem Mem.cell3 {w0 w : World} {L : List (Nat × List Value)} {R : List (Option Addr × List Value × Nat × Nat)} {p0 : Nat × List Value} {p1 : Nat × List Value} {p2 : Nat × List Value} {g : Nat} {v : Value} (M : Mem w0 w (p0 :: p1 :: p2 :: (g, [v]) :: L) R) : w.cell? ⟨g, 0, none⟩ = some v := M.cell (List.mem_cons_of_mem _ (List.mem_cons_of_mem _ (List.mem_cons_of_mem _ (List.mem_cons_self ..))))
theorem Mem.lt3 {w0 w : World} {L : List (Nat × List Value)} {R : List (Option Addr × List Value × Nat × Nat)} {p0 : Nat × List Value} {p1 : Nat × List Value} {p2 : Nat × List Value} {g : Nat} {X : List Value} (M : Mem w0 w (p0 :: p1 :: p2 :: (g, X) :: L) R) : g < w.heap.size := M.lt (List.mem_cons_of_mem _ (List.mem_cons_of_mem _ (List.mem_cons_of_mem _ (List.mem_cons_self ..))))
theorem Mem.at4 {w0 w : World} {L : List (Nat × List Value)} {R : List (Option Addr × List Value × Nat × Nat)} {r0 : Option Addr × List Value × Nat × Nat} {r1 : Option Addr × List Value × Nat × Nat} {r2 : Option Addr × List Value × Nat × Nat} {r3 : Option Addr × List Value × Nat × Nat} {va : Option Addr} {X : List Value} {lo hi : Nat} (M : Mem w0 w L (r0 :: r1 :: r2 :: r3 :: (va, X, lo, hi) :: R)) : FRw w va X lo hi := M.rows _ (List.mem_cons_of_mem _ (List.mem_cons_of_mem _ (List.mem_cons_of_mem _ (List.mem_cons_of_mem _ (List.mem_cons_self ..)))))
theorem Mem.cell4 {w0 w : World} {L : List (Nat × List Value)} {R : List (Option Addr × List Value × Nat × Nat)} {p0 : Nat × List Value} {p1 : Nat × List Value} {p2 : Nat × List Value} {p3 : Nat × List Value} {g : Nat} {v : Value} (M : Mem w0 w (p0 :: p1 :: p2 :: p3 :: (g, [v]) :: L) R) : w.cell? ⟨g, 0, none⟩ = some v := M.cell (List.mem_cons_of_mem _ (List.mem_cons_of_mem _ (List.mem_cons_of_mem _ (List.mem_cons_of_mem _ (List.mem_cons_self ..)))))
theorem Mem.lt4 {w0 w : World} {L : List (Nat × List Value)} {R : List (Option Addr × List Value × Nat × Nat)} {p0 : Nat × List Value} {p1 : Nat × List Value} {p2 : Nat × List Value} {p3 : Nat × List Value} {g : Nat} {X : List Value} (M : Mem w0 w (p0 :: p1 :: p2 :: p3 :: (g, X) :: L) R) : g < w.heap.size := M.lt (List.mem_cons_of_mem _ (List.mem_cons_of_mem _ (List.mem_cons_of_mem _ (List.mem_cons_of_mem _ (List.mem_cons_self ..)))))
theorem Mem.at5 {w0 w : World} {L : List (Nat × List Value)} {R : List (Option Addr × List Value × Nat × Nat)} {r0 : Option Addr × List Value × Nat × Nat} {r1 : Option Addr × List Value × Nat × Nat} {r2 : Option Addr × List Value × Nat × Nat} {r3 : Option Addr × List Value × Nat × Nat} {r4 : Option Addr × List Value × Nat × Nat} {va : Option Addr} {X : List Value} {lo hi : Nat} (M : Mem w0 w L (r0 :: r1 :: r2 :: r3 :: r4 :: (va, X, lo, hi) :: R)) : FRw w va X lo hi := M.rows _ (List.mem_cons_of_mem _ (List.mem_cons_of_mem _ (List.mem_cons_of_mem _ (List.mem_cons_of_mem _ (List.mem_cons_of_mem _ (List.mem_cons_self ..))))))
theorem Mem.cell5 {w0 w : World} {L : List (Nat × List Value)} {R : List (Option Addr × List Value × Nat × Nat)} {p0 : Nat × List Value} {p1 : Nat × List Value} {p2 : Nat × List Value} {p3 : Nat × List Value} {p4 : Nat × List Value} {g : Nat} {v : Value} (M : Mem w0 w (p0 :: p1 :: p2 :: p3 :: p4 :: (g, [v]) :: L) R) : w.cell? ⟨g, 0, none⟩ = some v := M.cell (List.mem_cons_of_mem _ (List.mem_cons_of_mem _ (List.mem_cons_of_mem _ (List.mem_cons_of_mem _ (List.mem_cons_of_mem _ (List.mem_cons_self ..))))))
theorem Mem.lt5 {w0 w : World} {L : List (Nat × List Value)} {R : List (Option Addr × List Value × Nat × Nat)} {p0 : Nat × List Value} {p1 : Nat × List Value} {p2 : Nat × List Value} {p3 : Nat × List Value} {p4 : Nat × List Value} {g : Nat} {X : List Value} (M : Mem w0 w (p0 :: p1 :: p2 :: p3 :: p4 :: (g, X) :: L) R) : g < w.heap.size := M.lt (List.mem_cons_of_mem _ (List.mem_cons_of_mem _ (List.mem_cons_of_mem _ (List.mem_cons_of_mem _ (List.mem_cons_of_mem _ (List.mem_cons_self ..))))))
end Go.Proofs.Ytplcdcfhfaghiaa
/- IntsA: Rows of numbers: their copies, their comparison, marks that are laid into one and found again. -/
namespace Go.Proofs.Ytplcdcfhfaghiaa
set_option maxRecDepth 100000
open Go.RowKit
attribute [local go_sem ↓] Go.wp_at_zero Go.wp_at_succ

def ics (xs : List Int) : List Value := xs.map fun x => .int .i64 x
theorem ics_len (xs : List Int) : (ics xs).length = xs.length := by simp [ics]
theorem ics_get (xs : List Int) (j : Nat) (h : j < xs.length) : (ics xs)[j]? = some (.int .i64 (xs.getD j 0)) := by simp [ics, List.getD, h]
theorem ics_set (xs : List Int) (j : Nat) (x : Int) : (ics xs).set j (.int .i64 x) = ics (xs.set j x) := by simp [ics, List.map_set]
theorem crow_int {w : World} {a : Option Addr} {xs : List Int} (h : CRow w a (ics xs)) (hp : 0 < xs.length) : ∃ b off, a = some ⟨b, off, none⟩ ∧ b < w.heap.size ∧ ∀ j, j < xs.length → w.cell? ⟨b, off + j, none⟩ = some (.int .i64 (xs.getD j 0)) := by
  obtain ⟨b, off, e, hb, hc⟩ := h (by rw [ics_len]; exact hp)
  exact ⟨b, off, e, hb, fun j hj => hc j _ (ics_get xs j hj)⟩
theorem infoIntG : (Try.prog.info? 3).map (fun i => (i.zero, i.size, i.bytes)) = some (some (.int .i64 0), 1, 8) := by kernel_rfl
def ToInts (xs : List Int) (w : World) (e : Ending) (w' : World) : Prop := ∃ g, e = .returned (.slice (some ⟨g, 0, none⟩) xs.length xs.length) ∧ w.heap.size ≤ g ∧ WCells w' g (ics xs) ∧ Below w.heap.size w w'
/-- Marks from k on. -/
def marksI (k n : Nat) : List Int := (List.range n).map fun j => ((k + j : Nat) : Int)
theorem marksI_len (k n : Nat) : (marksI k n).length = n := by simp [marksI]
theorem marksI_at (k n j : Nat) (h : j < n) : (marksI k n).getD j 0 = ((k + j : Nat) : Int) := by simp [marksI, List.getD, h]
def MarkInts (g k n : Nat) (w : World) (e : Ending) (w' : World) : Prop := e = .returned (.int .i64 (k + n : Nat)) ∧ (∃ ys : List Int, ys.length = n ∧ WCells w' g (ics ys)) ∧ w.grownBy w' (some g)
theorem gb_set' (w : World) (g i : Nat) (v : Value) : w.grownBy (w.setCell ⟨g, i, none⟩ v) (some g) :=
  ⟨rfl, rfl, rfl, by simp [World.setCell], fun k _ hk => Below.heap_setCell w ⟨g, i, none⟩ v k (fun e => hk (by rw [e]))⟩
theorem gb_two' {a b c : World} {g : Nat} (h : a.grownBy b (some g)) (k : b.grownBy c (some g)) : a.grownBy c (some g) :=
  ⟨k.os.trans h.os, k.tape.trans h.tape, k.output.trans h.output, Nat.le_trans h.size k.size, fun j hj hn => (k.block j (Nat.lt_of_lt_of_le hj h.size) hn).trans (h.block j hj hn)⟩
end Go.Proofs.Ytplcdcfhfaghiaa
/- NestA: Rows of rows of numbers in memory: one that is read, one that may be written, and what is turned of the world in between. Nothing of the program is read here. -/
namespace Go.Proofs.Ytplcdcfhfaghiaa
set_option maxRecDepth 100000
open Go.RowKit

/-- What lies from lo up to hi may be turned, what lies beyond the end is new; all else is as it was. -/
structure Turned (w w' : World) (lo hi : Nat) : Prop where
  base : Below 0 w w'
  block : ∀ k, k < w.heap.size → (k < lo ∨ hi ≤ k) → w'.heap[k]? = w.heap[k]?
theorem Turned.refl (w : World) (lo hi : Nat) : Turned w w lo hi := ⟨Below.refl _ _, fun _ _ _ => rfl⟩
theorem Turned.trans {a b c : World} {lo hi : Nat} (h : Turned a b lo hi) (k : Turned b c lo hi) : Turned a c lo hi :=
  ⟨h.base.trans k.base, fun i hi' ho => (k.block i (Nat.lt_of_lt_of_le hi' h.base.size) ho).trans (h.block i hi' ho)⟩
theorem Turned.of_below {w w' : World} (h : Below w.heap.size w w') (lo hi : Nat) : Turned w w' lo hi := ⟨h.mono (Nat.zero_le _), fun k hk _ => h.block k hk⟩
theorem Turned.of_grown {w w' : World} {g lo hi : Nat} (h : w.grownBy w' (some g)) (h1 : lo ≤ g) (h2 : g < hi) : Turned w w' lo hi :=
  ⟨⟨h.os, h.tape, h.output, h.size, fun k hk => by omega⟩, fun k hk ho => h.block k hk (by intro e; cases e; omega)⟩
theorem Turned.wide {w w' : World} {lo hi lo' hi' : Nat} (h : Turned w w' lo hi) (h1 : lo' ≤ lo) (h2 : hi ≤ hi') : Turned w w' lo' hi' := ⟨h.base, fun k hk ho => h.block k hk (by omega)⟩
theorem Turned.below {w w' : World} {lo hi B : Nat} (h : Turned w w' lo hi) (h1 : B ≤ lo) (h2 : B ≤ w.heap.size) : Below B w w' :=
  ⟨h.base.os, h.base.tape, h.base.output, h.base.size, fun k hk => h.block k (by omega) (.inl (by omega))⟩
theorem Turned.size {w w' : World} {lo hi : Nat} (h : Turned w w' lo hi) : w.heap.size ≤ w'.heap.size := h.base.size

/-- A row of cells that is read, its block in a range. -/
def RRow (w : World) (a : Option Addr) (L : List Value) (lo hi : Nat) : Prop :=
  0 < L.length → ∃ b off, a = some ⟨b, off, none⟩ ∧ lo ≤ b ∧ b < hi ∧ b < w.heap.size ∧ ∀ i v, L[i]? = some v → w.cell? ⟨b, off + i, none⟩ = some v
theorem RRow.crow {w : World} {a : Option Addr} {L : List Value} {lo hi : Nat} (h : RRow w a L lo hi) : CRow w a L := fun hp => by
  obtain ⟨b, off, e, _, _, h3, h4⟩ := h hp
  exact ⟨b, off, e, h3, h4⟩
theorem RRow.of_crow {w : World} {a : Option Addr} {L : List Value} (h : CRow w a L) : RRow w a L 0 w.heap.size := fun hp => by
  obtain ⟨b, off, e, h3, h4⟩ := h hp
  exact ⟨b, off, e, Nat.zero_le _, h3, h3, h4⟩
theorem RRow.turned {w w' : World} {a : Option Addr} {L : List Value} {lo hi lo' hi' : Nat} (h : RRow w a L lo hi) (t : Turned w w' lo' hi') (hd : hi ≤ lo' ∨ hi' ≤ lo) : RRow w' a L lo hi := fun hp => by
  obtain ⟨b, off, e, h1, h2, h3, h4⟩ := h hp
  exact ⟨b, off, e, h1, h2, Nat.lt_of_lt_of_le h3 t.size, fun i v hv => (World.cell?_of_block (a := ⟨b, off + i, none⟩) (t.block b h3 (by omega))).trans (h4 i v hv)⟩
theorem RRow.below {w w' : World} {a : Option Addr} {L : List Value} {lo hi : Nat} (h : RRow w a L lo hi) (hb : Below w.heap.size w w') : RRow w' a L lo hi := fun hp => by
  obtain ⟨b, off, e, h1, h2, h3, h4⟩ := h hp
  exact ⟨b, off, e, h1, h2, Nat.lt_of_lt_of_le h3 hb.size, fun i v hv => (hb.cell (p := ⟨b, off + i, none⟩) h3).trans (h4 i v hv)⟩
theorem RRow.wide {w : World} {a : Option Addr} {L : List Value} {lo hi lo' hi' : Nat} (h : RRow w a L lo hi) (h1 : lo' ≤ lo) (h2 : hi ≤ hi') : RRow w a L lo' hi' := fun hp => by
  obtain ⟨b, off, e, q1, q2, q3, q4⟩ := h hp
  exact ⟨b, off, e, by omega, by omega, q3, q4⟩
theorem RRow.of_wcells {w : World} {g lo hi : Nat} {L : List Value} (h : WCells w g L) (h1 : lo ≤ g) (h2 : g < hi) : RRow w (some ⟨g, 0, none⟩) L lo hi := fun _ => ⟨g, 0, rfl, h1, h2, h.1, fun i v hv => by rw [Nat.zero_add]; exact (h.2 i v hv).1⟩
theorem WCells.turned {w w' : World} {g lo hi : Nat} {L : List Value} (h : WCells w g L) (t : Turned w w' lo hi) (hd : g < lo ∨ hi ≤ g) : WCells w' g L :=
  ⟨Nat.lt_of_lt_of_le h.1 t.size, fun i v hv => ⟨(World.cell?_of_block (a := ⟨g, i, none⟩) (t.block g h.1 hd)).trans (h.2 i v hv).1, (World.frozen?_of_block (a := ⟨g, i, none⟩) (t.block g h.1 hd)).trans (h.2 i v hv).2⟩⟩
theorem WCells.apart {w w' : World} {g q : Nat} {L : List Value} (h : WCells w g L) (t : w.grownBy w' (some q)) (hd : g ≠ q) : WCells w' g L :=
  h.turned (Turned.of_grown (lo := q) (hi := q + 1) t (Nat.le_refl _) (by omega)) (by omega)

/-- A row of numbers that stands in a row of rows. -/
structure SR where
  loc : Option Addr
  row : List Int
  cap : Nat
instance : Inhabited SR := ⟨⟨none, [], 0⟩⟩
def srv (s : SR) : Value := .slice s.loc s.row.length s.cap
def svs (ss : List SR) : List Value := ss.map srv
def rws (ss : List SR) : List (List Int) := ss.map (·.row)
theorem svs_len (ss : List SR) : (svs ss).length = ss.length := by simp [svs]
theorem rws_len (ss : List SR) : (rws ss).length = ss.length := by simp [rws]
theorem svs_get (ss : List SR) (i : Nat) (h : i < ss.length) : (svs ss)[i]? = some (srv ss[i]) := by simp [svs, h]
theorem rws_get (ss : List SR) (i : Nat) (h : i < ss.length) : (rws ss)[i]'(by rw [rws_len]; exact h) = ss[i].row := by simp [rws]
theorem rws_snoc (ss : List SR) (s : SR) : rws (ss ++ [s]) = rws ss ++ [s.row] := by simp [rws]
/-- A row of rows that is read, its blocks in a range. -/
def MR (w : World) (a : Option Addr) (ss : List SR) (lo hi : Nat) : Prop := RRow w a (svs ss) lo hi ∧ ∀ s ∈ ss, RRow w s.loc (ics s.row) lo hi
theorem MR.turned {w w' : World} {a : Option Addr} {ss : List SR} {lo hi lo' hi' : Nat} (h : MR w a ss lo hi) (t : Turned w w' lo' hi') (hd : hi ≤ lo' ∨ hi' ≤ lo) : MR w' a ss lo hi := ⟨h.1.turned t hd, fun s hs => (h.2 s hs).turned t hd⟩
theorem MR.below {w w' : World} {a : Option Addr} {ss : List SR} {lo hi : Nat} (h : MR w a ss lo hi) (hb : Below w.heap.size w w') : MR w' a ss lo hi := ⟨h.1.below hb, fun s hs => (h.2 s hs).below hb⟩
theorem MR.wide {w : World} {a : Option Addr} {ss : List SR} {lo hi lo' hi' : Nat} (h : MR w a ss lo hi) (h1 : lo' ≤ lo) (h2 : hi ≤ hi') : MR w a ss lo' hi' := ⟨h.1.wide h1 h2, fun s hs => (h.2 s hs).wide h1 h2⟩
theorem MR.nil (w : World) (a : Option Addr) (lo hi : Nat) : MR w a [] lo hi := ⟨fun h => by simp [svs] at h, by simp⟩
/-- What the walk wants of it: the outer row's place and cells. -/
theorem MR.at {w : World} {a : Option Addr} {ss : List SR} {lo hi : Nat} (h : MR w a ss lo hi) (hp : 0 < ss.length) : ∃ b off, a = some ⟨b, off, none⟩ ∧ b < w.heap.size ∧ ∀ i (hi : i < ss.length), w.cell? ⟨b, off + i, none⟩ = some (srv ss[i]) := by
  obtain ⟨b, off, e, _, _, h3, h4⟩ := h.1 (by rw [svs_len]; exact hp)
  exact ⟨b, off, e, h3, fun i hi => h4 i _ (svs_get ss i hi)⟩
/-- A row of rows that may be written: each row in a block of its own, all in a range. -/
structure MW (w : World) (g : Nat) (ss : List SR) (lo hi : Nat) : Prop where
  out : WCells w g (svs ss)
  glo : lo ≤ g
  ghi : g < hi
  rows : ∀ s ∈ ss, ∃ b, s.loc = some ⟨b, 0, none⟩ ∧ lo ≤ b ∧ b < hi ∧ b ≠ g ∧ WCells w b (ics s.row) ∧ s.row.length ≤ s.cap
  apart : (ss.map SR.loc).Nodup
theorem MW.mr {w : World} {g : Nat} {ss : List SR} {lo hi : Nat} (h : MW w g ss lo hi) : MR w (some ⟨g, 0, none⟩) ss lo hi :=
  ⟨RRow.of_wcells h.out h.glo h.ghi, fun s hs => by obtain ⟨b, e, h1, h2, _, h3, _⟩ := h.rows s hs; rw [e]; exact RRow.of_wcells h3 h1 h2⟩
theorem MW.turned {w w' : World} {g : Nat} {ss : List SR} {lo hi lo' hi' : Nat} (h : MW w g ss lo hi) (t : Turned w w' lo' hi') (hd : hi ≤ lo' ∨ hi' ≤ lo) : MW w' g ss lo hi :=
  ⟨h.out.turned t (by have := h.glo; have := h.ghi; omega), h.glo, h.ghi, fun s hs => by
    obtain ⟨b, e, h1, h2, h3, h4, h5⟩ := h.rows s hs
    exact ⟨b, e, h1, h2, h3, h4.turned t (by omega), h5⟩, h.apart⟩
theorem MW.below {w w' : World} {g : Nat} {ss : List SR} {lo hi : Nat} (h : MW w g ss lo hi) (hb : Below w.heap.size w w') : MW w' g ss lo hi :=
  ⟨h.out.below hb h.out.1, h.glo, h.ghi, fun s hs => by
    obtain ⟨b, e, h1, h2, h3, h4, h5⟩ := h.rows s hs
    exact ⟨b, e, h1, h2, h3, h4.below hb h4.1, h5⟩, h.apart⟩
theorem MW.wide {w : World} {g : Nat} {ss : List SR} {lo hi lo' hi' : Nat} (h : MW w g ss lo hi) (h1 : lo' ≤ lo) (h2 : hi ≤ hi') : MW w g ss lo' hi' :=
  ⟨h.out, Nat.le_trans h1 h.glo, Nat.lt_of_lt_of_le h.ghi h2, fun s hs => by
    obtain ⟨b, e, q1, q2, q3, q4, q5⟩ := h.rows s hs
    exact ⟨b, e, by omega, by omega, q3, q4, q5⟩, h.apart⟩
/-- An answer of rows of numbers: nothing, or a row of rows that may be written. -/
def MAns (w : World) (v : Value) (X : List (List Int)) (lo hi : Nat) : Prop :=
  ∃ (a : Option Addr) (cap : Nat) (ss : List SR), v = .slice a ss.length cap ∧ rws ss = X ∧ ss.length ≤ cap ∧ (ss = [] ∨ ∃ g, a = some ⟨g, 0, none⟩ ∧ MW w g ss lo hi)
theorem MAns.empty (w : World) (a : Option Addr) (cap lo hi : Nat) : MAns w (.slice a 0 cap) [] lo hi := ⟨a, cap, [], rfl, rfl, Nat.zero_le _, .inl rfl⟩
end Go.Proofs.Ytplcdcfhfaghiaa
/- SlG: Stretches of memory: what lies in each, all apart; what is put into one leaves the others as they are. -/
namespace Go.Proofs.Ytplcdcfhfaghiaa
set_option maxRecDepth 100000
open Go.RowKit

/-- Something that lies in the blocks from lo to hi. -/
structure Str where
  p : World → Prop
  lo : Nat
  hi : Nat
def Str.Loc (s : Str) : Prop := ∀ W W' l h, s.p W → Turned W W' l h → (s.hi ≤ l ∨ h ≤ s.lo) → s.p W'
/-- A box. -/
abbrev bxS (b : Nat) (X : List Value) : Str := ⟨fun W => WCells W b X, b, b + 1⟩
/-- A row. -/
abbrev rwS (va : Option Addr) (X : List Value) (lo hi : Nat) : Str := ⟨fun W => FRw W va X lo hi, lo, hi⟩
theorem bxS.loc (b : Nat) (X : List Value) : (bxS b X).Loc := fun _ _ _ _ h t hd => h.turned t (by rcases hd with h | h <;> (dsimp only [bxS] at h; omega))
theorem rwS.loc (va : Option Addr) (X : List Value) (lo hi : Nat) : (rwS va X lo hi).Loc := fun _ _ l h hp t hd => by
  rcases hp with e | ⟨g, h1, h2, h3, h4⟩
  · exact .inl e
  · exact .inr ⟨g, h1, h2, h3, h4.turned t (by rcases hd with e | e <;> (dsimp only [rwS] at e; omega))⟩
structure SL (w0 W : World) (S : List Str) : Prop where
  bel : Below w0.heap.size w0 W
  is : ∀ s ∈ S, s.p W ∧ s.Loc ∧ w0.heap.size ≤ s.lo ∧ s.hi ≤ W.heap.size
  apart : S.Pairwise fun s t => s.hi ≤ t.lo ∨ t.hi ≤ s.lo
section
variable {w0 W W' : World} {S : List Str} {s t : Str}
theorem SL.tail (h : SL w0 W (s :: S)) : SL w0 W S := ⟨h.bel, fun x hx => h.is x (List.mem_cons_of_mem _ hx), (List.pairwise_cons.1 h.apart).2⟩
theorem SL.start (w : World) : SL w w [] := ⟨Below.refl _ _, fun _ h => (by cases h), .nil⟩
theorem SL.below (h : SL w0 W S) (hb : Below W.heap.size W W') : SL w0 W' S :=
  ⟨h.bel.trans (hb.mono h.bel.size), fun s hs => ⟨(h.is s hs).2.1 W W' W'.heap.size W'.heap.size (h.is s hs).1 (Turned.of_below hb _ _) (.inl (Nat.le_trans (h.is s hs).2.2.2 hb.size)), (h.is s hs).2.1, (h.is s hs).2.2.1, Nat.le_trans (h.is s hs).2.2.2 hb.size⟩, h.apart⟩
theorem SL.drew (h : SL w0 W S) : SL w0 W.drew S := h.below (Below.drew (Below.refl _ _))
/-- What a call has made. -/
theorem SL.add (h : SL w0 W S) (hb : Below W.heap.size W W') (hp : s.p W') (hl : s.Loc) (h1 : W.heap.size ≤ s.lo) (h2 : s.hi ≤ W'.heap.size) : SL w0 W' (s :: S) := by
  have k := h.below hb
  refine ⟨k.bel, fun x hx => ?_, List.pairwise_cons.2 ⟨fun x hx => .inr (Nat.le_trans (h.is x hx).2.2.2 h1), h.apart⟩⟩
  rcases List.mem_cons.1 hx with rfl | hx
  · exact ⟨hp, hl, Nat.le_trans h.bel.size h1, h2⟩
  · exact k.is x hx
theorem SL.add2 (h : SL w0 W S) (hb : Below W.heap.size W W') (hp : s.p W') (hl : s.Loc) (h1 : W.heap.size ≤ s.lo) (h2 : s.hi ≤ W'.heap.size) (kp : t.p W') (kl : t.Loc) (k1 : W.heap.size ≤ t.lo) (k2 : t.hi ≤ W'.heap.size) (ha : s.hi ≤ t.lo ∨ t.hi ≤ s.lo) : SL w0 W' (s :: t :: S) := by
  have k := h.add hb kp kl k1 k2
  refine ⟨k.bel, fun x hx => ?_, List.pairwise_cons.2 ⟨fun x hx => ?_, k.apart⟩⟩
  · rcases List.mem_cons.1 hx with rfl | hx
    · exact ⟨hp, hl, Nat.le_trans h.bel.size h1, h2⟩
    · exact k.is x hx
  · rcases List.mem_cons.1 hx with rfl | hx
    · exact ha
    · exact .inr (Nat.le_trans (h.is x hx).2.2.2 h1)
theorem SL.new (h : SL w0 W S) (cs : Array Value) (ty : TypeId) : SL w0 (W.alloc (.cells cs ty)) (bxS W.heap.size cs.toList :: S) :=
  h.add ((Below.refl _ _).alloc (Nat.le_refl _) _) (wcells_new W cs ty) (bxS.loc _ _) (Nat.le_refl _) (by simp)
theorem SL.at (h : SL w0 W S) (i : Nat) (hs : S[i]? = some s) : s.p W := (h.is _ (List.mem_of_getElem? hs)).1
theorem SL.bx (h : SL w0 W S) (i : Nat) {b : Nat} {X : List Value} (hs : S[i]? = some (bxS b X)) (j : Nat) (v : Value) (hv : X[j]? = some v) : W.cell? ⟨b, j, none⟩ = some v ∧ W.frozen? ⟨b, j, none⟩ = false := (show WCells W b X from h.at i hs).2 j v hv
/-- What lies in one stretch is turned. -/
theorem SL.turn (h : SL w0 W S) (i : Nat) (hs : S[i]? = some s) (tu : Turned W W' s.lo s.hi) {q : World → Prop} (hq : q W') (hl : Str.Loc ⟨q, s.lo, s.hi⟩) : SL w0 W' (S.set i ⟨q, s.lo, s.hi⟩) := by
  have hm := h.is s (List.mem_of_getElem? hs)
  obtain ⟨hi, hie⟩ := List.getElem?_eq_some_iff.1 hs
  have hap : ∀ j (hj : j < S.length), j ≠ i → S[j].hi ≤ s.lo ∨ s.hi ≤ S[j].lo := fun j hj hne => by
    have := List.pairwise_iff_getElem.1 h.apart
    rcases Nat.lt_or_gt_of_ne hne with e | e
    · have := this j i hj hi e; rw [hie] at this; exact this
    · have := this i j hi hj e; rw [hie] at this; exact this.symm
  refine ⟨⟨h.bel.os ▸ tu.base.os ▸ rfl, ?_, ?_, ?_, ?_⟩, fun x hx => ?_, ?_⟩
  · exact tu.base.tape.trans h.bel.tape
  · exact tu.base.output.trans h.bel.output
  · exact Nat.le_trans h.bel.size tu.base.size
  · intro k hk
    exact (tu.block k (Nat.lt_of_lt_of_le hk h.bel.size) (by omega)).trans (h.bel.block k hk)
  · obtain ⟨j, hj, rfl⟩ := List.getElem_of_mem hx
    rw [List.length_set] at hj
    by_cases e : j = i
    · subst e
      rw [List.getElem_set_self]
      exact ⟨hq, hl, hm.2.2.1, Nat.le_trans hm.2.2.2 tu.base.size⟩
    · rw [List.getElem_set_ne (Ne.symm e)]
      have k := h.is _ (List.getElem_mem hj)
      exact ⟨k.2.1 W W' _ _ k.1 tu (hap j hj e), k.2.1, k.2.2.1, Nat.le_trans k.2.2.2 tu.base.size⟩
  · rw [List.pairwise_iff_getElem] at *
    intro a b ha hb hab
    rw [List.length_set] at ha hb
    have := List.pairwise_iff_getElem.1 h.apart a b ha hb hab
    rw [List.getElem_set, List.getElem_set]
    split <;> split
    · omega
    · rename_i e1 e2; subst e1; rw [hie] at this; exact this
    · rename_i e1 e2; subst e2; rw [hie] at this; exact this
    · exact this
theorem SL.put (h : SL w0 W S) (i : Nat) {b : Nat} {X : List Value} (hs : S[i]? = some (bxS b X)) (j : Nat) (v : Value) (hj : j < X.length) : SL w0 (W.setCell ⟨b, j, none⟩ v) (S.set i (bxS b (X.set j v))) :=
  h.turn i hs (Turned.of_grown (gb_set' W b j v) (Nat.le_refl _) (Nat.lt_succ_self _)) ((show WCells W b X from h.at i hs).set j v hj) (bxS.loc _ _)
theorem SL.swap (h : SL w0 W (s :: t :: S)) : SL w0 W (t :: s :: S) := by
  refine ⟨h.bel, fun x hx => h.is x (by simp only [List.mem_cons] at hx ⊢; rcases hx with h | h | h <;> simp [h]), ?_⟩
  have h1 := List.pairwise_cons.1 h.apart
  have h2 := List.pairwise_cons.1 h1.2
  exact List.pairwise_cons.2 ⟨fun x hx => by
    rcases List.mem_cons.1 hx with rfl | hx
    · exact (h1.1 t (List.mem_cons_self ..)).symm
    · exact h2.1 x hx, List.pairwise_cons.2 ⟨fun x hx => h1.1 x (List.mem_cons_of_mem _ hx), h2.2⟩⟩
/-- A row of one's own that is made longer, outside all stretches. -/
theorem SL.grown (h : SL w0 W S) {row : Option Nat} (hg : W.grownBy W' row) (hr : ∀ q, row = some q → w0.heap.size ≤ q ∧ ∀ s ∈ S, s.hi ≤ q ∨ q < s.lo) : SL w0 W' S := by
  cases row with
  | none => exact h.below ⟨hg.os, hg.tape, hg.output, hg.size, fun k hk => hg.block k hk (by simp)⟩
  | some q =>
    have t := Turned.of_grown hg (Nat.le_refl q) (Nat.lt_succ_self q)
    refine ⟨h.bel.grown hg h.bel.size fun k e => by cases e; exact (hr q rfl).1, fun s hs => ⟨(h.is s hs).2.1 W W' _ _ (h.is s hs).1 t (by rcases (hr q rfl).2 s hs with e | e <;> omega), (h.is s hs).2.1, (h.is s hs).2.2.1, Nat.le_trans (h.is s hs).2.2.2 hg.size⟩, h.apart⟩
end
end Go.Proofs.Ytplcdcfhfaghiaa
/- GrwB: A region that draws its order, some of whose operations make memory: what answers one value in every later world is taken first, calls that only make memory too. The way of the proof is that of the library's Derived.OrdersHeld, which is imported; the class of worlds is ours. -/
namespace Go.Proofs.Ytplcdcfhfaghiaa
set_option maxRecDepth 100000
open Go.RowKit

/-- A later world: more memory, what was there untouched. -/
def Later (w w' : World) : Prop := Below w.heap.size w w'
theorem Later.refl (w : World) : Later w w := Below.refl _ _
theorem Later.trans {a b c : World} (h : Later a b) (g : Later b c) : Later a c := Below.trans h (Below.mono g (Below.size h))
section
variable {P : Program} {ops : Array Oper} {Q : Exit → Act → World → Prop} {md : Region.Mode}
/-- Whatever order is picked from here on, in whatever later world. -/
def wpL (P : Program) (md : Region.Mode) (ops : Array Oper) (Q : Exit → Act → World → Prop) : Nat → Array Bool → Act → World → Prop
  | 0, l, a, w => Region.ready md ops l = [] ∧ ∀ x, Later w x → Q .normal a x
  | n + 1, l, a, w => ∀ x, Later w x → (Region.ready md ops l = [] → Q .normal a x) ∧
      ∀ i ∈ Region.ready md ops l, wpOp P ops Q i (fun a' y => Later x y ∧ wpL P md ops Q n (l.setIfInBounds i true) a' y) a x
theorem wpL_later : ∀ (n : Nat) (l : Array Bool) (a : Act) (w y : World), Later w y → wpL P md ops Q n l a w → wpL P md ops Q n l a y
  | 0, _, _, _, _, hy, h => ⟨h.1, fun x hx => h.2 x (hy.trans hx)⟩
  | _ + 1, _, _, _, _, hy, h => fun x hx => h x (hy.trans hx)
theorem wpAny_of_L : ∀ (n : Nat) (l : Array Bool) (a : Act) (w : World), wpL P md ops Q n l a w → wpAny P md ops Q n l a w
  | 0, _, _, w, h => ⟨h.1, h.2 w (Later.refl w)⟩
  | n + 1, _, _, w, h => ⟨(h w (Later.refl w)).1, fun i hi => wpOp_mono (fun a' y hh => wpAny_of_L n _ a' y hh.2) ((h w (Later.refl w)).2 i hi)⟩
/-- One value, in every later world; a call may make memory. -/
def YL (P : Program) (ops : Array Oper) (o : Oper) (v : Value) (a : Act) (w : World) : Prop :=
  (Region.wanted o (yielded ops a.tmps) = true ∧ ∀ x, Later w x → o.quietAt P a (Later x) x v) ∨ (Region.wanted o (yielded ops a.tmps) = false ∧ v = undef)
theorem YL.later {o : Oper} {v : Value} {a : Act} {w y : World} (h : YL P ops o v a w) (hy : Later w y) : YL P ops o v a y :=
  h.imp (fun q => ⟨q.1, fun x hx => q.2 x (hy.trans hx)⟩) id
theorem YL.same {o : Oper} {v : Value} {a b : Act} {w : World} (h : YL P ops o v a w) (he : execOp b.eval o = execOp a.eval o) (hw : Region.wanted o (yielded ops b.tmps) = Region.wanted o (yielded ops a.tmps)) : YL P ops o v b w := by
  unfold YL Oper.quietAt at *
  rw [he, hw]
  exact h
theorem YL.op {i : Nat} {o : Oper} {v : Value} {a : Act} {w x : World} {K : Act → World → Prop} (hi : ops[i]? = some o) (h : YL P ops o v a w) (hx : Later w x) (hk : ∀ y, Later x y → K (a.put o.dst v) y) : wpOp P ops Q i K a x := by
  unfold wpOp
  rw [hi]
  dsimp only
  rcases h with ⟨hw, hq⟩ | ⟨hw, hv⟩
  · rw [if_pos hw]
    refine Or.inl ?_
    have q := hq x hx
    unfold Oper.quietAt at q
    unfold Oper.wp
    revert q
    cases (execOp a.eval o).run P x with
    | halt _ _ => exact False.elim
    | ok r y =>
      cases r with
      | value u => rintro ⟨rfl, rfl⟩; exact hk _ (Later.refl _)
      | skip => rintro ⟨rfl, rfl⟩; exact hk _ (Later.refl _)
      | enter f args => rintro ⟨rfl, hc⟩; exact hc.mono (by rintro _ z ⟨rfl, hz⟩; exact hk _ hz)
      | _ => exact False.elim
  · rw [if_neg (by rw [hw]; exact Bool.false_ne_true), ← hv]
    exact hk _ (Later.refl _)
/-- What an operation may do to the frame: its own slot, or a call that is put off. -/
def Fr (d : Option Tmp) (a b : Act) : Prop := ∃ u, b = a.put d u ∨ ∃ f, b = { a with defers := f :: a.defers }.put d u
theorem op_frame {j : Nat} {oj : Oper} {K : Act → World → Prop} {a : Act} {x : World} (hj : ops[j]? = some oj) (h : wpOp P ops Q j K a x) : wpOp P ops Q j (fun b y => Fr oj.dst a b ∧ K b y) a x := by
  unfold wpOp at h ⊢
  rw [hj] at h ⊢
  dsimp only at h ⊢
  split
  · rename_i hw
    rw [if_pos hw] at h
    refine h.imp_left fun q => ?_
    unfold Oper.wp at q ⊢
    revert q
    cases (execOp a.eval oj).run P x with
    | halt r y => cases r <;> exact id
    | ok r y =>
      cases r with
      | value u => exact fun q => ⟨⟨u, .inl rfl⟩, q⟩
      | skip => exact fun q => ⟨⟨undef, .inl rfl⟩, q⟩
      | defer f => exact fun q => ⟨⟨undef, .inr ⟨f, rfl⟩⟩, q⟩
      | enter f args => exact fun q => Calls.mono q fun e z hz => by cases e <;> first | exact ⟨⟨_, .inl rfl⟩, hz⟩ | exact hz
      | row r args => exact fun q => Rows.mono q fun u z hz => ⟨⟨u, .inl rfl⟩, hz⟩
      | _ => exact id
  · rename_i hw
    rw [if_neg hw] at h
    exact ⟨⟨undef, .inl rfl⟩, h⟩
/-- An operation beside another that has its value already: the library's law for no world at all, and what the frame may be behind it. -/
theorem op_beside {j : Nat} {oi oj : Oper} {v : Value} {w : World} (hj : ops[j]? = some oj) (hap : oi.apart ops oj = true) (hsi : ∀ cs b, oi.op ≠ .select cs b) (hsj : ∀ cs b, oj.op ≠ .select cs b)
    (hQ : ∀ c a w, Q (.panic c) (a.put oi.dst v) w → Q (.panic c) a w) {K : Act → World → Prop} {a : Act} {x : World} (hy : YL P ops oi v a w) (h : wpOp P ops Q j K (a.put oi.dst v) x) :
    wpOp P ops Q j (fun a' y => YL P ops oi v a' w ∧ K (a'.put oi.dst v) y) a x := by
  have h3 := (Oper.apart_spec hap).2.2
  refine wpOp_mono ?_ (op_frame hj (wpOp_putIf (S := fun _ => False) hj hap hsi hsj hQ (hy.imp (fun q => ⟨q.1, fun _ hf => hf.elim⟩) id) h))
  rintro b y ⟨⟨u, rfl | ⟨f, rfl⟩⟩, -, hk⟩
  · exact ⟨hy.same (execOp_put oi hsi a oj.dst u h3) (wanted_put oi a oj.dst u h3), hk⟩
  · have q : YL P ops oi v { a with defers := f :: a.defers } w := hy.same rfl rfl
    exact ⟨q.same (execOp_put oi hsi _ oj.dst u h3) (wanted_put oi _ oj.dst u h3), hk⟩
/-- Who may come up waits for nobody who has not come up. -/
theorem ready_free {l : Array Bool} {i j : Nat} {oj : Oper} (hi : i ∈ Region.ready md ops l) (hj : j ∈ Region.ready md ops l) (ho : ops[j]? = some oj) : ∀ e ∈ oj.after, Region.binds md e = true → e.on ≠ i := by
  obtain ⟨-, o', ho', hall⟩ := mem_ready.1 hj
  obtain rfl : oj = o' := Option.some.inj (ho.symm.trans ho')
  rintro e he hb rfl
  have q := hall e he hb
  have z := (mem_ready.1 hi).1
  grind
theorem wpL_first {i : Nat} {oi : Oper} {v : Value} (hi : ops[i]? = some oi) (hsel : ∀ (j : Nat) (o : Oper) cs b, ops[j]? = some o → o.op ≠ .select cs b) (hQ : ∀ c a w, Q (.panic c) (a.put oi.dst v) w → Q (.panic c) a w) :
    ∀ (n : Nat) (l : Array Bool) (a : Act) (w : World), (∀ j oj, ops[j]? = some oj → j ≠ i → l.getD j true = false → (∀ e ∈ oj.after, Region.binds md e = true → e.on ≠ i) → oi.apart ops oj = true) →
      i ∈ Region.ready md ops l → YL P ops oi v a w → wpL P md ops Q n (l.setIfInBounds i true) (a.put oi.dst v) w → wpL P md ops Q (n + 1) l a w := by
  intro n
  induction n with
  | zero =>
    intro l a w _ hr hy H x hx
    refine ⟨fun h => (by rw [h] at hr; cases hr), fun j hj => ?_⟩
    by_cases hji : j = i
    · subst hji
      exact hy.op hi hx fun y hxy => ⟨hxy, wpL_later 0 _ _ _ _ (hx.trans hxy) H⟩
    · have q := ready_mono hj hji
      rw [H.1] at q
      cases q
  | succ n ih =>
    intro l a w hfree hr hy H x hx
    refine ⟨fun h => (by rw [h] at hr; cases hr), fun j hj => ?_⟩
    by_cases hji : j = i
    · subst hji
      exact hy.op hi hx fun y hxy => ⟨hxy, wpL_later (n + 1) _ _ _ _ (hx.trans hxy) H⟩
    · obtain ⟨hun, oj, hoj, -⟩ := mem_ready.1 hj
      have q := op_beside hoj (hfree j oj hoj hji hun (ready_free hr hj hoj)) (fun cs b => hsel i oi cs b hi) (fun cs b => hsel j oj cs b hoj) hQ hy ((H x hx).2 j (ready_mono hj hji))
      refine wpOp_mono (fun b y hb => ⟨hb.2.1, ih (l.setIfInBounds j true) b y (fun k ok hk hki hku hno => hfree k ok hk hki ?_ hno) (ready_mono hr (Ne.symm hji)) (hb.1.later (hx.trans hb.2.1)) ?_⟩) q
      · by_cases hjk : j = k
        · subst hjk; exact hun
        · rw [getD_set_ne true hjk] at hku; exact hku
      · rw [Array.setIfInBounds_comm _ _ hji]
        exact hb.2.2
theorem at_drop {L r : List Oper} {i : Nat} {o : Oper} (h : L.drop i = o :: r) : L.toArray[i]? = some o := by
  have q : (L.drop i)[0]? = some o := by rw [h]; rfl
  simpa using q
/-- Take number i: a value. -/
theorem wpL_val {L r : List Oper} {i : Nat} {oi : Oper} {v : Value} {n : Nat} {l : Array Bool} {a : Act} {w : World} (hi : L.drop i = oi :: r) (hs : Region.noSelect L.toArray = true) (hf : Region.free md L.toArray l i = true) (hr : (Region.ready md L.toArray l).contains i = true)
    (hQ : ∀ c a w, Q (.panic c) (a.put oi.dst v) w → Q (.panic c) a w) (hw : Region.wanted oi (yielded L.toArray a.tmps) = true) (hy : ∀ x, Later w x → (execOp a.eval oi).run P x = .ok (.value v) x)
    (h : wpL P md L.toArray Q n (l.setIfInBounds i true) (a.put oi.dst v) w) : wpL P md L.toArray Q (n + 1) l a w :=
  wpL_first (at_drop hi) (Region.noSelect_spec hs) hQ n l a w (Region.free_spec (at_drop hi) hf) (by simpa using hr) (Or.inl ⟨hw, fun x hx => by unfold Oper.quietAt; rw [hy x hx]; exact ⟨rfl, rfl⟩⟩) h
/-- Take number i: a call. -/
theorem wpL_call {L r : List Oper} {i : Nat} {oi : Oper} {v : Value} {f : FuncId} {args : Array Value} {n : Nat} {l : Array Bool} {a : Act} {w : World} (hi : L.drop i = oi :: r) (hs : Region.noSelect L.toArray = true) (hf : Region.free md L.toArray l i = true) (hr : (Region.ready md L.toArray l).contains i = true)
    (hQ : ∀ c a w, Q (.panic c) (a.put oi.dst v) w → Q (.panic c) a w) (hw : Region.wanted oi (yielded L.toArray a.tmps) = true) (hy : ∀ x, Later w x → (execOp a.eval oi).run P x = .ok (.enter f args) x)
    (hc : ∀ x, Later w x → Calls P f args x fun e y => e = .returned v ∧ Below x.heap.size x y)
    (h : wpL P md L.toArray Q n (l.setIfInBounds i true) (a.put oi.dst v) w) : wpL P md L.toArray Q (n + 1) l a w :=
  wpL_first (at_drop hi) (Region.noSelect_spec hs) hQ n l a w (Region.free_spec (at_drop hi) hf) (by simpa using hr) (Or.inl ⟨hw, fun x hx => by unfold Oper.quietAt; rw [hy x hx]; exact ⟨rfl, hc x hx⟩⟩) h
/-- One alone may come up: it is carried out in a later world. -/
theorem wpL_one {L r : List Oper} {i : Nat} {oi : Oper} {n : Nat} {l : Array Bool} {a : Act} {w : World} (hr : Region.ready md L.toArray l = [i]) (hi : L.drop i = oi :: r) (hw : Region.wanted oi (yielded L.toArray a.tmps) = true)
    (h : ∀ x, Later w x → ∃ (v : Value) (y : World), (execOp a.eval oi).run P x = .ok (.value v) y ∧ Later x y ∧ wpL P md L.toArray Q n (l.setIfInBounds i true) (a.put oi.dst v) y) : wpL P md L.toArray Q (n + 1) l a w := by
  intro x hx
  rw [hr]
  refine ⟨fun h => (by cases h), fun j hj => ?_⟩
  rw [List.mem_singleton] at hj
  subst hj
  obtain ⟨v, y, h1, h2, h3⟩ := h x hx
  unfold wpOp
  rw [at_drop hi]
  dsimp only
  rw [if_pos hw]
  refine Or.inl ?_
  unfold Oper.wp
  rw [h1]
  exact ⟨h2, h3⟩
theorem wpL_done {l : Array Bool} {a : Act} {w : World} (hr : Region.ready md ops l = []) (h : ∀ x, Later w x → Q .normal a x) : ∀ n, wpL P md ops Q n l a w
  | 0 => ⟨hr, h⟩
  | _ + 1 => fun x hx => ⟨fun _ => h x hx, by rw [hr]; simp⟩
theorem wp_region_later {id : Nat} {a : Act} {w : World} (hm : P.follows .mixedOrders = true) (h : wpL P .any ops Q ops.size (Array.replicate ops.size false) a w.drew) : (Code.region id ops true).wp P Q a w :=
  wp_region_any hm (wpAny_of_L _ _ _ _ h)
end
section
variable {P : Program} {Q : Exit → Act → World → Prop} {md : Region.Mode}
/-- One alone may come up, and its call panics. -/
theorem wpL_panics {L r : List Oper} {i : Nat} {oi : Oper} {f : FuncId} {args : Array Value} {chain : List PanicEntry} {n : Nat} {l : Array Bool} {a : Act} {w : World} (hr : Region.ready md L.toArray l = [i]) (hi : L.drop i = oi :: r) (hw : Region.wanted oi (yielded L.toArray a.tmps) = true)
    (hy : ∀ x, Later w x → (execOp a.eval oi).run P x = .ok (.enter f args) x) (hc : ∀ x, Later w x → Calls P f args x fun e y => e = .panicked chain ∧ Q (.panic chain) a y) : wpL P md L.toArray Q (n + 1) l a w := by
  intro x hx
  rw [hr]
  refine ⟨fun h => (by cases h), fun j hj => ?_⟩
  rw [List.mem_singleton] at hj
  subst hj
  unfold wpOp
  rw [at_drop hi]
  dsimp only
  rw [if_pos hw]
  refine Or.inl ?_
  unfold Oper.wp
  rw [hy x hx]
  exact (hc x hx).mono (by rintro e y ⟨rfl, hq⟩; exact hq)
end
section
variable {P : Program} {Q : Exit → Act → World → Prop} {md : Region.Mode}
/-- Take number i: it is not wanted. -/
theorem wpL_skip {L r : List Oper} {i : Nat} {oi : Oper} {n : Nat} {l : Array Bool} {a : Act} {w : World} (hi : L.drop i = oi :: r) (hs : Region.noSelect L.toArray = true) (hf : Region.free md L.toArray l i = true) (hr : (Region.ready md L.toArray l).contains i = true)
    (hQ : ∀ c a w, Q (.panic c) (a.put oi.dst undef) w → Q (.panic c) a w) (hw : Region.wanted oi (yielded L.toArray a.tmps) = false)
    (h : wpL P md L.toArray Q n (l.setIfInBounds i true) (a.put oi.dst undef) w) : wpL P md L.toArray Q (n + 1) l a w :=
  wpL_first (at_drop hi) (Region.noSelect_spec hs) hQ n l a w (Region.free_spec (at_drop hi) hf) (by simpa using hr) (Or.inr ⟨hw, rfl⟩) h
end
end Go.Proofs.Ytplcdcfhfaghiaa
/- GrwC: A region that draws its order and ends in stores: all that comes ahead of its last operations is taken as in a region that only makes memory; then the last ones, in whatever order. -/
namespace Go.Proofs.Ytplcdcfhfaghiaa
set_option maxRecDepth 100000
open Go.RowKit
section
variable {P : Program} {ops : Array Oper} {Q : Exit → Act → World → Prop} {md : Region.Mode} {m : Nat}
/-- Only operations from number m on are left. -/
def tailed (m : Nat) (ops : Array Oper) (l : Array Bool) : Bool := (List.range m).all fun j => l.getD j true || decide (ops.size ≤ j)
theorem tailed_spec {l : Array Bool} (h : tailed m ops l = true) {j : Nat} (hj : l.getD j true = false) (hs : j < ops.size) : m ≤ j := by
  refine Nat.le_of_not_lt fun hlt => ?_
  have := List.all_eq_true.1 h j (by simpa using hlt)
  rw [hj, Bool.false_or, decide_eq_true_eq] at this
  omega
/-- Whatever order is picked from here on, in whatever later world, until only the last ones are left. -/
def wpK (P : Program) (md : Region.Mode) (ops : Array Oper) (Q : Exit → Act → World → Prop) (m : Nat) : Nat → Array Bool → Act → World → Prop
  | 0, l, a, w => ∀ x, Later w x → wpAny P md ops Q 0 l a x
  | n + 1, l, a, w => (tailed m ops l = true ∧ ∀ x, Later w x → wpAny P md ops Q (n + 1) l a x) ∨ (∀ x, Later w x → (Region.ready md ops l = [] → Q .normal a x) ∧
      ∀ i ∈ Region.ready md ops l, wpOp P ops Q i (fun a' y => Later x y ∧ wpK P md ops Q m n (l.setIfInBounds i true) a' y) a x)
theorem wpK_later : ∀ (n : Nat) (l : Array Bool) (a : Act) (w y : World), Later w y → wpK P md ops Q m n l a w → wpK P md ops Q m n l a y
  | 0, _, _, _, _, hy, h => fun x hx => h x (hy.trans hx)
  | _ + 1, _, _, _, _, hy, h => h.imp (fun q => ⟨q.1, fun x hx => q.2 x (hy.trans hx)⟩) (fun q x hx => q x (hy.trans hx))
theorem wpAny_of_K : ∀ (n : Nat) (l : Array Bool) (a : Act) (w : World), wpK P md ops Q m n l a w → wpAny P md ops Q n l a w
  | 0, _, _, w, h => h w (Later.refl w)
  | n + 1, _, _, w, h => by
    rcases h with h | h
    · exact h.2 w (Later.refl w)
    · exact ⟨(h w (Later.refl w)).1, fun i hi => wpOp_mono (fun a' y hh => wpAny_of_K n _ a' y hh.2) ((h w (Later.refl w)).2 i hi)⟩
/-- Those that wait for number i, or for one of them. -/
def clo (md : Region.Mode) (ops : Array Oper) (l : Array Bool) (i : Nat) : List Nat := (List.range ops.size).foldl (fun acc f => if !(l.getD f true) && (((ops[f]?).map fun o => o.after.any fun e => Region.binds md e && ((e.on == i) || acc.contains e.on)) == some true) then f :: acc else acc) []
/-- The last ones that are left wait for number i. -/
def waits (md : Region.Mode) (m : Nat) (ops : Array Oper) (l : Array Bool) (i : Nat) (C : List Nat) : Bool :=
  (C.all fun c => !(l.getD c true) && (((ops[c]?).map fun o => o.after.any fun e => Region.binds md e && ((e.on == i) || C.contains e.on)) == some true)) && ((List.range ops.size).all fun f => decide (f < m) || l.getD f true || C.contains f)
theorem getD_clash {l : Array Bool} {k : Nat} (h1 : l.getD k true = false) (h2 : l.getD k false = true) : False := by
  unfold Array.getD at h1 h2
  split at h1
  · rename_i h
    rw [dif_pos h] at h2
    rw [h1] at h2
    cases h2
  · cases h1
theorem waits_spec {l : Array Bool} {i : Nat} {C : List Nat} (h : waits md m ops l i C = true) (hi : l.getD i true = false) : ∀ c ∈ C, c ∉ Region.ready md ops l := by
  unfold waits at h
  rw [Bool.and_eq_true] at h
  intro c hc hr
  have h1 := List.all_eq_true.1 h.1 c hc
  rw [Bool.and_eq_true] at h1
  obtain ⟨-, o, ho, hall⟩ := mem_ready.1 hr
  rw [ho] at h1
  simp only [Option.map_some, beq_iff_eq, Option.some.injEq] at h1
  have h2 := h1.2
  rw [Array.any_eq_true'] at h2
  obtain ⟨e, he, q⟩ := h2
  rw [Bool.and_eq_true, Bool.or_eq_true] at q
  have hd := hall e he q.1
  rcases q.2 with q2 | q2
  · rw [beq_iff_eq] at q2
    rw [q2] at hd
    exact getD_clash hi hd
  · have hm : e.on ∈ C := by simpa using q2
    have h3 := List.all_eq_true.1 h.1 _ hm
    rw [Bool.and_eq_true, Bool.not_eq_true'] at h3
    exact getD_clash h3.1 hd
theorem waits_last {l : Array Bool} {i f : Nat} {C : List Nat} (h : waits md m ops l i C = true) (hf : m ≤ f) (hu : l.getD f true = false) (hs : f < ops.size) : f ∈ C := by
  unfold waits at h
  rw [Bool.and_eq_true] at h
  have := List.all_eq_true.1 h.2 f (by simpa using hs)
  rw [hu, Bool.or_false, Bool.or_eq_true, decide_eq_true_eq] at this
  rcases this with q | q
  · omega
  · simpa using q
theorem waits_step {l : Array Bool} {i j : Nat} {C : List Nat} (h : waits md m ops l i C = true) (hj : j ∉ C) : waits md m ops (l.setIfInBounds j true) i C = true := by
  unfold waits at h ⊢
  rw [Bool.and_eq_true] at h ⊢
  refine ⟨List.all_eq_true.2 fun c hc => ?_, List.all_eq_true.2 fun f hf => ?_⟩
  · have h1 := List.all_eq_true.1 h.1 c hc
    have hcj : j ≠ c := fun e => hj (e ▸ hc)
    rw [getD_set_ne true hcj]
    exact h1
  · have h1 := List.all_eq_true.1 h.2 f hf
    by_cases e : j = f
    · subst e
      have : (l.setIfInBounds j true).getD j true = true := by
        simp only [Array.getD]
        split
        · simp
        · rfl
      rw [this]
      simp
    · rw [getD_set_ne true e]
      exact h1
theorem wpK_first {i : Nat} {oi : Oper} {v : Value} {C : List Nat} (hi : ops[i]? = some oi) (hsel : ∀ (j : Nat) (o : Oper) cs b, ops[j]? = some o → o.op ≠ .select cs b) (hQ : ∀ c a w, Q (.panic c) (a.put oi.dst v) w → Q (.panic c) a w) :
    ∀ (n : Nat) (l : Array Bool) (a : Act) (w : World), waits md m ops l i C = true → (∀ j oj, ops[j]? = some oj → j ≠ i → l.getD j true = false → (∀ e ∈ oj.after, Region.binds md e = true → e.on ≠ i) → oi.apart ops oj = true) →
      i ∈ Region.ready md ops l → YL P ops oi v a w → wpK P md ops Q m n (l.setIfInBounds i true) (a.put oi.dst v) w → wpK P md ops Q m (n + 1) l a w := by
  intro n
  induction n with
  | zero =>
    intro l a w _ _ hr hy H
    refine .inr fun x hx => ⟨fun h => (by rw [h] at hr; cases hr), fun j hj => ?_⟩
    by_cases hji : j = i
    · subst hji
      exact hy.op hi hx fun y hxy => ⟨hxy, wpK_later 0 _ _ _ _ (hx.trans hxy) H⟩
    · have q := ready_mono hj hji
      rw [(H w (Later.refl w)).1] at q
      cases q
  | succ n ih =>
    intro l a w hwt hfree hr hy H
    refine .inr fun x hx => ⟨fun h => (by rw [h] at hr; cases hr), fun j hj => ?_⟩
    by_cases hji : j = i
    · subst hji
      exact hy.op hi hx fun y hxy => ⟨hxy, wpK_later (n + 1) _ _ _ _ (hx.trans hxy) H⟩
    · obtain ⟨hun, oj, hoj, -⟩ := mem_ready.1 hj
      have hjC : j ∉ C := fun hc => waits_spec hwt (mem_ready.1 hr).1 j hc hj
      rcases H with H | H
      · have hju : (l.setIfInBounds i true).getD j true = false := by rw [getD_set_ne true (Ne.symm hji)]; exact hun
        have hjs := (Array.getElem?_eq_some_iff.1 hoj).1
        have hjm := tailed_spec H.1 hju hjs
        exact absurd (waits_last hwt hjm hun hjs) hjC
      · have q := op_beside hoj (hfree j oj hoj hji hun (ready_free hr hj hoj)) (fun cs b => hsel i oi cs b hi) (fun cs b => hsel j oj cs b hoj) hQ hy ((H x hx).2 j (ready_mono hj hji))
        refine wpOp_mono (fun b y hb => ⟨hb.2.1, ih (l.setIfInBounds j true) b y (waits_step hwt hjC) (fun k ok hk hki hku hno => hfree k ok hk hki ?_ hno) (ready_mono hr (Ne.symm hji)) (hb.1.later (hx.trans hb.2.1)) ?_⟩) q
        · by_cases hjk : j = k
          · subst hjk; exact hun
          · rw [getD_set_ne true hjk] at hku; exact hku
        · rw [Array.setIfInBounds_comm _ _ hji]
          exact hb.2.2
theorem wpK_tail {l : Array Bool} {a : Act} {w : World} (ht : tailed m ops l = true) : ∀ {n : Nat}, (∀ x, Later w x → wpAny P md ops Q n l a x) → wpK P md ops Q m n l a w
  | 0, h => h
  | _ + 1, h => .inl ⟨ht, h⟩
theorem wpK_done {l : Array Bool} {a : Act} {w : World} (hr : Region.ready md ops l = []) (h : ∀ x, Later w x → Q .normal a x) : ∀ n, wpK P md ops Q m n l a w
  | 0 => fun x hx => ⟨hr, h x hx⟩
  | _ + 1 => .inr fun x hx => ⟨fun _ => h x hx, by rw [hr]; simp⟩
theorem wp_region_tail {id : Nat} {a : Act} {w : World} (m : Nat) (hm : P.follows .mixedOrders = true) (h : wpK P .any ops Q m ops.size (Array.replicate ops.size false) a w.drew) : (Code.region id ops true).wp P Q a w :=
  wp_region_any hm (wpAny_of_K _ _ _ _ h)
end
section
variable {P : Program} {Q : Exit → Act → World → Prop} {md : Region.Mode} {m : Nat}
/-- Take number i: a value. -/
theorem wpK_val {L r : List Oper} {i : Nat} {oi : Oper} {v : Value} {n : Nat} {l : Array Bool} {a : Act} {w : World} (hi : L.drop i = oi :: r) (hs : Region.noSelect L.toArray = true) (hf : Region.free md L.toArray l i = true) (hr : (Region.ready md L.toArray l).contains i = true) (ht : waits md m L.toArray l i (clo md L.toArray l i) = true)
    (hQ : ∀ c a w, Q (.panic c) (a.put oi.dst v) w → Q (.panic c) a w) (hw : Region.wanted oi (yielded L.toArray a.tmps) = true) (hy : ∀ x, Later w x → (execOp a.eval oi).run P x = .ok (.value v) x)
    (h : wpK P md L.toArray Q m n (l.setIfInBounds i true) (a.put oi.dst v) w) : wpK P md L.toArray Q m (n + 1) l a w :=
  wpK_first (at_drop hi) (Region.noSelect_spec hs) hQ n l a w ht (Region.free_spec (at_drop hi) hf) (by simpa using hr) (Or.inl ⟨hw, fun x hx => by unfold Oper.quietAt; rw [hy x hx]; exact ⟨rfl, rfl⟩⟩) h
/-- Take number i: a call. -/
theorem wpK_call {L r : List Oper} {i : Nat} {oi : Oper} {v : Value} {f : FuncId} {args : Array Value} {n : Nat} {l : Array Bool} {a : Act} {w : World} (hi : L.drop i = oi :: r) (hs : Region.noSelect L.toArray = true) (hf : Region.free md L.toArray l i = true) (hr : (Region.ready md L.toArray l).contains i = true) (ht : waits md m L.toArray l i (clo md L.toArray l i) = true)
    (hQ : ∀ c a w, Q (.panic c) (a.put oi.dst v) w → Q (.panic c) a w) (hw : Region.wanted oi (yielded L.toArray a.tmps) = true) (hy : ∀ x, Later w x → (execOp a.eval oi).run P x = .ok (.enter f args) x)
    (hc : ∀ x, Later w x → Calls P f args x fun e y => e = .returned v ∧ Below x.heap.size x y)
    (h : wpK P md L.toArray Q m n (l.setIfInBounds i true) (a.put oi.dst v) w) : wpK P md L.toArray Q m (n + 1) l a w :=
  wpK_first (at_drop hi) (Region.noSelect_spec hs) hQ n l a w ht (Region.free_spec (at_drop hi) hf) (by simpa using hr) (Or.inl ⟨hw, fun x hx => by unfold Oper.quietAt; rw [hy x hx]; exact ⟨rfl, hc x hx⟩⟩) h
/-- Take number i: it is not wanted. -/
theorem wpK_skip {L r : List Oper} {i : Nat} {oi : Oper} {n : Nat} {l : Array Bool} {a : Act} {w : World} (hi : L.drop i = oi :: r) (hs : Region.noSelect L.toArray = true) (hf : Region.free md L.toArray l i = true) (hr : (Region.ready md L.toArray l).contains i = true) (ht : waits md m L.toArray l i (clo md L.toArray l i) = true)
    (hQ : ∀ c a w, Q (.panic c) (a.put oi.dst undef) w → Q (.panic c) a w) (hw : Region.wanted oi (yielded L.toArray a.tmps) = false)
    (h : wpK P md L.toArray Q m n (l.setIfInBounds i true) (a.put oi.dst undef) w) : wpK P md L.toArray Q m (n + 1) l a w :=
  wpK_first (at_drop hi) (Region.noSelect_spec hs) hQ n l a w ht (Region.free_spec (at_drop hi) hf) (by simpa using hr) (Or.inr ⟨hw, rfl⟩) h
/-- One alone may come up, and answers a value; memory may be made. -/
theorem wpK_one {L r : List Oper} {i : Nat} {oi : Oper} {n : Nat} {l : Array Bool} {a : Act} {w : World} (hr : Region.ready md L.toArray l = [i]) (hi : L.drop i = oi :: r) (hw : Region.wanted oi (yielded L.toArray a.tmps) = true)
    (h : ∀ x, Later w x → ∃ (v : Value) (y : World), (execOp a.eval oi).run P x = .ok (.value v) y ∧ Later x y ∧ wpK P md L.toArray Q m n (l.setIfInBounds i true) (a.put oi.dst v) y) : wpK P md L.toArray Q m (n + 1) l a w := by
  refine .inr fun x hx => ?_
  rw [hr]
  refine ⟨fun h => (by cases h), fun j hj => ?_⟩
  rw [List.mem_singleton] at hj
  subst hj
  obtain ⟨v, y, h1, h2, h3⟩ := h x hx
  unfold wpOp
  rw [at_drop hi]
  dsimp only
  rw [if_pos hw]
  refine Or.inl ?_
  unfold Oper.wp
  rw [h1]
  exact ⟨h2, h3⟩
/-- One alone may come up: a call that answers what it likes and only makes memory. -/
theorem wpK_onecall {L r : List Oper} {i : Nat} {oi : Oper} {f : FuncId} {args : Array Value} {n : Nat} {l : Array Bool} {a : Act} {w : World} (hr : Region.ready md L.toArray l = [i]) (hi : L.drop i = oi :: r) (hw : Region.wanted oi (yielded L.toArray a.tmps) = true)
    (hy : ∀ x, Later w x → (execOp a.eval oi).run P x = .ok (.enter f args) x)
    (h : ∀ x, Later w x → Calls P f args x fun e y => ∃ v, e = .returned v ∧ Below x.heap.size x y ∧ wpK P md L.toArray Q m n (l.setIfInBounds i true) (a.put oi.dst v) y) : wpK P md L.toArray Q m (n + 1) l a w := by
  refine .inr fun x hx => ?_
  rw [hr]
  refine ⟨fun h => (by cases h), fun j hj => ?_⟩
  rw [List.mem_singleton] at hj
  subst hj
  unfold wpOp
  rw [at_drop hi]
  dsimp only
  rw [if_pos hw]
  refine Or.inl ?_
  unfold Oper.wp
  rw [hy x hx]
  exact (h x hx).mono (by rintro e y ⟨v, rfl, h1, h2⟩; exact ⟨h1, h2⟩)
/-- A call and the making of a box may come up, in either order. -/
theorem wpK_callbox {L r r' : List Oper} {i j : Nat} {oi oj : Oper} {f : FuncId} {args : Array Value} {n : Nat} {l : Array Bool} {a : Act} {w : World} {C : Array Value} {t : TypeId}
    (hr : Region.ready md L.toArray l = [i, j]) (hi : L.drop i = oi :: r) (hj : L.drop j = oj :: r') (hw : Region.wanted oi (yielded L.toArray a.tmps) = true) (hwj : Region.wanted oj (yielded L.toArray a.tmps) = true)
    (hy : ∀ x, Later w x → (execOp a.eval oi).run P x = .ok (.enter f args) x) (hz : ∀ x, Later w x → (execOp a.eval oj).run P x = .ok (.value (.pointer (some ⟨x.heap.size, 0, none⟩))) (x.alloc (.cells C t)))
    (h1 : ∀ x, Later w x → Calls P f args x fun e y => ∃ v, e = .returned v ∧ Below x.heap.size x y ∧ wpK P md L.toArray Q m n (l.setIfInBounds i true) (a.put oi.dst v) y)
    (h2 : ∀ x, Later w x → wpK P md L.toArray Q m n (l.setIfInBounds j true) (a.put oj.dst (.pointer (some ⟨x.heap.size, 0, none⟩))) (x.alloc (.cells C t))) : wpK P md L.toArray Q m (n + 1) l a w := by
  refine .inr fun x hx => ?_
  rw [hr]
  refine ⟨fun h => (by cases h), fun k hk => ?_⟩
  rw [List.mem_cons, List.mem_singleton] at hk
  unfold wpOp
  rcases hk with rfl | rfl
  · rw [at_drop hi]
    dsimp only
    rw [if_pos hw]
    refine Or.inl ?_
    unfold Oper.wp
    rw [hy x hx]
    exact (h1 x hx).mono (by rintro e y ⟨v, rfl, q1, q2⟩; exact ⟨q1, q2⟩)
  · rw [at_drop hj]
    dsimp only
    rw [if_pos hwj]
    refine Or.inl ?_
    unfold Oper.wp
    rw [hz x hx]
    exact ⟨(Below.refl _ _).alloc (Nat.le_refl _) _, h2 x hx⟩
/-- The last ones: a value that holds in every world is taken first. -/
theorem wpA_first {ops : Array Oper} {i : Nat} {oi : Oper} {v : Value} (hi : ops[i]? = some oi) (hsel : ∀ (j : Nat) (o : Oper) cs b, ops[j]? = some o → o.op ≠ .select cs b) (hQ : ∀ c a w, Q (.panic c) (a.put oi.dst v) w → Q (.panic c) a w) :
    ∀ (n : Nat) (l : Array Bool) (a : Act) (w : World), (∀ j oj, ops[j]? = some oj → j ≠ i → l.getD j true = false → (∀ e ∈ oj.after, Region.binds md e = true → e.on ≠ i) → oi.apart ops oj = true) →
      i ∈ Region.ready md ops l → Region.wanted oi (yielded ops a.tmps) = true → (∀ x, (execOp a.eval oi).run P x = .ok (.value v) x) → wpAny P md ops Q n (l.setIfInBounds i true) (a.put oi.dst v) w → wpAny P md ops Q (n + 1) l a w := by
  intro n
  induction n with
  | zero =>
    intro l a w _ hr hw hy H
    refine ⟨fun h => (by rw [h] at hr; cases hr), fun j hj => ?_⟩
    by_cases hji : j = i
    · subst hji
      unfold wpOp
      rw [hi]
      dsimp only
      rw [if_pos hw]
      refine Or.inl ?_
      unfold Oper.wp
      rw [hy w]
      exact H
    · have q := ready_mono hj hji
      rw [H.1] at q
      cases q
  | succ n ih =>
    intro l a w hfree hr hw hy H
    refine ⟨fun h => (by rw [h] at hr; cases hr), fun j hj => ?_⟩
    by_cases hji : j = i
    · subst hji
      unfold wpOp
      rw [hi]
      dsimp only
      rw [if_pos hw]
      refine Or.inl ?_
      unfold Oper.wp
      rw [hy w]
      exact H
    · obtain ⟨hun, oj, hoj, -⟩ := mem_ready.1 hj
      have hap := hfree j oj hoj hji hun (ready_free hr hj hoj)
      have h3 := (Oper.apart_spec hap).2.2
      have q := op_frame hoj (wpOp_putIf (S := fun _ => False) hoj hap (fun cs b => hsel i oi cs b hi) (fun cs b => hsel j oj cs b hoj) hQ (Or.inl ⟨hw, fun _ hf => hf.elim⟩) (H.2 j (ready_mono hj hji)))
      refine wpOp_mono ?_ q
      have step : ∀ (b : Act) (y : World), execOp b.eval oi = execOp a.eval oi → Region.wanted oi (yielded ops b.tmps) = Region.wanted oi (yielded ops a.tmps) → wpAny P md ops Q n ((l.setIfInBounds i true).setIfInBounds j true) (b.put oi.dst v) y → wpAny P md ops Q (n + 1) (l.setIfInBounds j true) b y := fun b y e1 e2 hk => by
        refine ih (l.setIfInBounds j true) b y (fun k ok hk hki hku hno => hfree k ok hk hki ?_ hno) (ready_mono hr (Ne.symm hji)) (by rw [e2]; exact hw) (fun x => by rw [e1]; exact hy x) ?_
        · by_cases hjk : j = k
          · subst hjk; exact hun
          · rw [getD_set_ne true hjk] at hku; exact hku
        · rw [Array.setIfInBounds_comm _ _ hji]
          exact hk
      rintro b y ⟨⟨u, rfl | ⟨f, rfl⟩⟩, -, hk⟩
      · exact step _ _ (execOp_put oi (fun cs b => hsel i oi cs b hi) a oj.dst u h3) (wanted_put oi a oj.dst u h3) hk
      · exact step _ _ (execOp_put oi (fun cs b => hsel i oi cs b hi) { a with defers := f :: a.defers } oj.dst u h3) (wanted_put oi { a with defers := f :: a.defers } oj.dst u h3) hk
theorem wpA_val {L r : List Oper} {i : Nat} {oi : Oper} {v : Value} {n : Nat} {l : Array Bool} {a : Act} {w : World} (hi : L.drop i = oi :: r) (hs : Region.noSelect L.toArray = true) (hf : Region.free md L.toArray l i = true) (hr : (Region.ready md L.toArray l).contains i = true)
    (hQ : ∀ c a w, Q (.panic c) (a.put oi.dst v) w → Q (.panic c) a w) (hw : Region.wanted oi (yielded L.toArray a.tmps) = true) (hy : ∀ x, (execOp a.eval oi).run P x = .ok (.value v) x)
    (h : wpAny P md L.toArray Q n (l.setIfInBounds i true) (a.put oi.dst v) w) : wpAny P md L.toArray Q (n + 1) l a w :=
  wpA_first (at_drop hi) (Region.noSelect_spec hs) hQ n l a w (Region.free_spec (at_drop hi) hf) (by simpa using hr) hw hy h
/-- The last one: a call. -/
theorem wpA_call {L r : List Oper} {i : Nat} {oi : Oper} {f : FuncId} {args : Array Value} {n : Nat} {l : Array Bool} {a : Act} {w : World} (hr : Region.ready md L.toArray l = [i]) (hi : L.drop i = oi :: r) (hw : Region.wanted oi (yielded L.toArray a.tmps) = true) (hy : (execOp a.eval oi).run P w = .ok (.enter f args) w)
    (hd : Region.ready md L.toArray (l.setIfInBounds i true) = []) (h : Calls P f args w fun e y => ∃ v, e = .returned v ∧ Q .normal (a.put oi.dst v) y) : wpAny P md L.toArray Q (n + 1) l a w := by
  refine ⟨fun h => (by rw [hr] at h; cases h), fun j hj => ?_⟩
  rw [hr, List.mem_singleton] at hj
  subst hj
  unfold wpOp
  rw [at_drop hi]
  dsimp only
  rw [if_pos hw]
  refine Or.inl ?_
  unfold Oper.wp
  rw [hy]
  refine h.mono ?_
  rintro e y ⟨v, rfl, hq⟩
  cases n with
  | zero => exact ⟨hd, hq⟩
  | succ n => exact ⟨fun _ => hq, by rw [hd]; simp⟩
/-- One alone may come up: a store; the rest behind it. -/
theorem wpA_step {L r : List Oper} {i : Nat} {oi : Oper} {n : Nat} {l : Array Bool} {a : Act} {w y : World} (hr : Region.ready md L.toArray l = [i]) (hi : L.drop i = oi :: r) (hw : Region.wanted oi (yielded L.toArray a.tmps) = true) (hy : (execOp a.eval oi).run P w = .ok .skip y)
    (h : wpAny P md L.toArray Q n (l.setIfInBounds i true) (a.put oi.dst undef) y) : wpAny P md L.toArray Q (n + 1) l a w := by
  refine ⟨fun h => (by rw [hr] at h; cases h), fun j hj => ?_⟩
  rw [hr, List.mem_singleton] at hj
  subst hj
  unfold wpOp
  rw [at_drop hi]
  dsimp only
  rw [if_pos hw]
  refine Or.inl ?_
  unfold Oper.wp
  rw [hy]
  exact h
theorem wpA_done {ops : Array Oper} {l : Array Bool} {a : Act} {w : World} (hr : Region.ready md ops l = []) (h : Q .normal a w) : ∀ n, wpAny P md ops Q n l a w
  | 0 => ⟨hr, h⟩
  | _ + 1 => ⟨fun _ => h, by rw [hr]; simp⟩
/-- The last one: a store. -/
theorem wpA_store {L r : List Oper} {i : Nat} {oi : Oper} {n : Nat} {l : Array Bool} {a : Act} {w y : World} (hr : Region.ready md L.toArray l = [i]) (hi : L.drop i = oi :: r) (hw : Region.wanted oi (yielded L.toArray a.tmps) = true) (hy : (execOp a.eval oi).run P w = .ok .skip y)
    (hd : Region.ready md L.toArray (l.setIfInBounds i true) = []) (h : Q .normal (a.put oi.dst undef) y) : wpAny P md L.toArray Q (n + 1) l a w := by
  refine ⟨fun h => (by rw [hr] at h; cases h), fun j hj => ?_⟩
  rw [hr, List.mem_singleton] at hj
  subst hj
  unfold wpOp
  rw [at_drop hi]
  dsimp only
  rw [if_pos hw]
  refine Or.inl ?_
  unfold Oper.wp
  rw [hy]
  cases n with
  | zero => exact ⟨hd, h⟩
  | succ n => exact ⟨fun _ => h, by rw [hd]; simp⟩
end
end Go.Proofs.Ytplcdcfhfaghiaa
