/- Texts of ours, laid one behind the other: Bytes, Draw, DrawB, DrawP, DrPk, RowsG, DrPth, BRowM, DrawC, IntsA, NestA, GenA, TreA, SchZ. -/
import Derived.Test.YtdglbakdianjkaaRows
import Derived.WalkKit
import Derived.WalkLawsBesides
import Derived.Handy
import Derived.Below
import Derived.Laws.IdiomStrings
import Derived.Laws.BytesArg
import Derived.Maps.AppendAt
import Derived.Laws.DeepStrings4
import Derived.PlainAid
import Derived.Deep.QuietTactic
import Derived.BigQuiet
import Derived.Deep.RegionHeld3
import Derived.Deep.DrawnRows
import Derived.OwnWalk
import Derived.OpenShut
/- Bytes: Rows of bytes that a call owns, and the string that is made of one: facts for the walks of this seat. -/
namespace Go.Proofs.Ytdglbakdianjkaa
set_option maxRecDepth 100000
open Go.RowKit

/-- Bytes as the cells of a row. -/
def bv (l : List UInt8) : List Value := l.map fun b => .int .u8 (b.toNat : Int)
theorem bv_nil : bv [] = [] := rfl
theorem bv_snoc (l : List UInt8) (b : UInt8) : bv l ++ [.int .u8 (b.toNat : Int)] = bv (l ++ [b]) := by simp [bv]
theorem bv_len (l : List UInt8) : (bv l).length = l.length := by simp [bv]
theorem byte_of (n : Int) (h0 : 0 ≤ n) (h1 : n < 256) : Value.int .u8 n = .int .u8 ((UInt8.ofNat n.toNat).toNat : Int) := by
  have : (UInt8.ofNat n.toNat).toNat = n.toNat := by simp; omega
  rw [this]; congr 1; omega

theorem Try.info5 : (Try.prog.info? 5).map (fun i => (i.zero, i.size, i.bytes)) = some (some (.int .u8 0), 1, 1) := by kernel_rfl

/-- The string of a row of bytes that a call owns. -/
theorem own_string {w : World} {base : Nat} {v : Value} {l : List UInt8} (h : w.ownsRow base 5 1 v l.length (bv l)) :
    (convert 22 9 v).run Try.prog w = .ok (.string ⟨l.toArray⟩) w := by
  have hc : ∀ g, v.ownBlock = some g → ∀ j u, (bv l)[j]? = some u → w.cell? ((⟨g, 0, none⟩ : Addr).add j) = some u := fun g hg => h.cells hg
  obtain ⟨h1, ⟨rfl, h0⟩ | ⟨g, cap, cur, rfl, _⟩⟩ := h
  · have : l = [] := List.eq_nil_of_length_eq_zero h0
    subst this
    exact run_convert_bytes_nil _ 22 5 Try.underlying22 Try.underlying5 0 0 _ Try.underlying9
  · exact run_convert_bytes_back w 22 9 5 ⟨g, 0, none⟩ cap l Try.underlying22 Try.underlying5 Try.underlying9 (fun j hj => hc g rfl j _ (by simp [bv, hj]))

/-- A part of a string. -/
theorem slice_str (s : ByteArray) (a b : Nat) (h1 : a ≤ b) (h2 : b ≤ s.size) (w : World) :
    (Instr.slice 9 (.string s) (some (.int .i64 (a : Int))) (some (.int .i64 (b : Int))) none).run Try.prog w = .ok (.string (s.extract a b)) w := by
  rw [run_slice_string_if w 9 s .i64 .i64 a b Try.underlying9, if_pos ⟨by omega, by omega⟩, if_pos ⟨by omega, by omega⟩]
  rfl
end Go.Proofs.Ytdglbakdianjkaa
/- Draw: The draws of the models: a cursor over the bytes of a code. What is drawn lies within its bounds; nothing but the cursor's own block is turned. -/
namespace Go.Proofs.Ytdglbakdianjkaa
open Go.RowKit
attribute [local go_sem ↓] Go.wp_at_zero Go.wp_at_succ

/-- The code that is drawn from: a slice of bytes that came in, below block B. -/
def CodeAt (w : World) (B : Nat) (a : Option Addr) (len : Nat) : Prop :=
  len ≤ 1048576 ∧ (0 < len → ∃ b off, a = some ⟨b, off, none⟩ ∧ b < B ∧ ∀ j, j < len → ∃ x : Int, w.cell? ⟨b, off + j, none⟩ = some (.int .u8 x) ∧ 0 ≤ x ∧ x ≤ 255)
/-- The cursor in block g. -/
def Cur (w : World) (g B : Nat) (a : Option Addr) (len cap : Nat) : Prop :=
  B ≤ g ∧ g < w.heap.size ∧ CodeAt w B a len ∧ w.cell? ⟨g, 0, none⟩ = some (.slice a len cap) ∧
  (∃ i : Nat, w.cell? ⟨g, 1, none⟩ = some (.int .i64 i) ∧ i ≤ len) ∧ (∃ h : Int, w.cell? ⟨g, 2, none⟩ = some (.int .i64 h)) ∧
  (∀ j, j < 3 → w.frozen? ⟨g, j, none⟩ = false)
def BytePost (w : World) (g B : Nat) (a : Option Addr) (len cap : Nat) (e : Ending) (w' : World) : Prop :=
  ∃ x : Int, e = .returned (.int .i64 x) ∧ 0 ≤ x ∧ x ≤ 255 ∧ Cur w' g B a len cap ∧ w.grownBy w' (some g)

theorem and255 (n : Int) : 0 ≤ bits .and .i64 n 255 ∧ bits .and .i64 n 255 ≤ 255 := by
  have h255 : (BitVec.ofInt 64 255).toNat = 2 ^ 8 - 1 := by decide
  have key : (BitVec.ofInt 64 n &&& BitVec.ofInt 64 255).toNat = (n % ((2 ^ 64 : Nat) : Int)).toNat % 2 ^ 8 := by
    rw [BitVec.toNat_and, BitVec.toNat_ofInt, h255, Nat.and_two_pow_sub_one_eq_mod]
  have e : bits .and .i64 n 255 = n % 256 := by
    show IntKind.i64.wrap ((BitVec.ofInt 64 n &&& BitVec.ofInt 64 255).toNat : Nat) = n % 256
    rw [key, IntKind.wrap_i64]
    omega
  rw [e]; omega
theorem gb_set (w : World) (g i : Nat) (v : Value) : w.grownBy (w.setCell ⟨g, i, none⟩ v) (some g) :=
  ⟨rfl, rfl, rfl, by simp [World.setCell], fun k _ hk => Below.heap_setCell _ _ _ _ (fun e => hk (by rw [e]))⟩
theorem gb_drewN (w : World) (q : Nat) (row : Option Nat) : w.grownBy (w.drewN q) row := ⟨rfl, rfl, rfl, Nat.le_refl _, fun _ _ _ => rfl⟩
theorem gb_two {a b c : World} {row : Option Nat} (h : a.grownBy b row) (k : b.grownBy c row) : a.grownBy c row :=
  ⟨k.os.trans h.os, k.tape.trans h.tape, k.output.trans h.output, Nat.le_trans h.size k.size, fun i hi hn => (k.block i (Nat.lt_of_lt_of_le hi h.size) hn).trans (h.block i hi hn)⟩
theorem gb_below {w w' : World} {row : Option Nat} (h : Below w.heap.size w w') : w.grownBy w' row := ⟨h.os, h.tape, h.output, h.size, fun k hk _ => h.block k hk⟩
theorem below_gb {w w' : World} {g B : Nat} (h : w.grownBy w' (some g)) (hB : B ≤ g) (hs : B ≤ w.heap.size) : Below B w w' :=
  ⟨h.os, h.tape, h.output, h.size, fun k hk => h.block k (by omega) (by simp; omega)⟩
theorem CodeAt.gb {w w' : World} {B g len : Nat} {a : Option Addr} (h : CodeAt w B a len) (hg : w.grownBy w' (some g)) (hB : B ≤ g) : CodeAt w' B a len := by
  refine ⟨h.1, fun hl => ?_⟩
  obtain ⟨b, off, rfl, hb, hx⟩ := h.2 hl
  refine ⟨b, off, rfl, hb, fun j hj => ?_⟩
  obtain ⟨x, hc, h0, h1⟩ := hx j hj
  exact ⟨x, hg.cell hc (by simp; omega), h0, h1⟩
theorem CodeAt.below {w w' : World} {B C len : Nat} {a : Option Addr} (h : CodeAt w B a len) (hb : Below C w w') (hC : B ≤ C) : CodeAt w' B a len := by
  refine ⟨h.1, fun hl => ?_⟩
  obtain ⟨b, off, rfl, hlt, hx⟩ := h.2 hl
  refine ⟨b, off, rfl, hlt, fun j hj => ?_⟩
  obtain ⟨x, hc, h0, h1⟩ := hx j hj
  exact ⟨x, (hb.cell (p := ⟨b, off + j, none⟩) (Nat.lt_of_lt_of_le hlt hC)).trans hc, h0, h1⟩
/-- New blocks, and what turns none of the cursor's: the cursor stands. -/
theorem Cur.below {w w' : World} {g B len cap : Nat} {a : Option Addr} (h : Cur w g B a len cap) (hb : Below w.heap.size w w') : Cur w' g B a len cap := by
  obtain ⟨hB, hg, hcode, c0, ⟨i, c1, hi⟩, ⟨k, c2⟩, hf⟩ := h
  exact ⟨hB, Nat.lt_of_lt_of_le hg hb.size, hcode.below hb (by omega), (hb.cell (p := ⟨g, 0, none⟩) hg).trans c0, ⟨i, (hb.cell (p := ⟨g, 1, none⟩) hg).trans c1, hi⟩, ⟨k, (hb.cell (p := ⟨g, 2, none⟩) hg).trans c2⟩,
    fun j hj => (hb.frozen (p := ⟨g, j, none⟩) hg).trans (hf j hj)⟩
theorem Cur.seth {w : World} {g B len cap : Nat} {a : Option Addr} (h : Cur w g B a len cap) (k : Int) : Cur (w.setCell ⟨g, 2, none⟩ (.int .i64 k)) g B a len cap := by
  obtain ⟨hB, hg, hcode, c0, ⟨i, c1, hi⟩, ⟨k', c2⟩, hf⟩ := h
  exact ⟨hB, by simpa [World.setCell] using hg, hcode.gb (gb_set _ _ _ _) hB, (World.cell?_setCell_other _ _ _ _ (by simp)).trans c0, ⟨i, (World.cell?_setCell_other _ _ _ _ (by simp)).trans c1, hi⟩, ⟨k, World.cell?_setCell_same _ _ _ c2⟩,
    fun j hj => (World.frozen?_setCell _ _ _ _).trans (hf j hj)⟩
theorem Cur.seti {w : World} {g B len cap : Nat} {a : Option Addr} (h : Cur w g B a len cap) (i : Nat) (hi : i ≤ len) : Cur (w.setCell ⟨g, 1, none⟩ (.int .i64 i)) g B a len cap := by
  obtain ⟨hB, hg, hcode, c0, ⟨i', c1, _⟩, ⟨k, c2⟩, hf⟩ := h
  exact ⟨hB, by simpa [World.setCell] using hg, hcode.gb (gb_set _ _ _ _) hB, (World.cell?_setCell_other _ _ _ _ (by simp)).trans c0, ⟨i, World.cell?_setCell_same _ _ _ c1, hi⟩, ⟨k, (World.cell?_setCell_other _ _ _ _ (by simp)).trans c2⟩,
    fun j hj => (World.frozen?_setCell _ _ _ _).trans (hf j hj)⟩
theorem drewN_bel (B : Nat) (w : World) (q : Nat) : Below B w (w.drewN q) := ⟨rfl, rfl, rfl, Nat.le_refl _, fun _ _ => rfl⟩
theorem byte_more {w : World} {g B len cap i : Nat} {a : Option Addr} (h : Cur w g B a len cap) (hi : i < len) (k : Int) (q : Nat) (y : Int) (hy : y = ((i + 1 : Nat) : Int)) (x : Int) (h0 : 0 ≤ x) (h1 : x ≤ 255) :
    BytePost w g B a len cap (.returned (.int .i64 x)) (((w.setCell ⟨g, 2, none⟩ (.int .i64 k)).drewN q).setCell ⟨g, 1, none⟩ (.int .i64 y)) := by
  subst hy
  exact ⟨x, rfl, h0, h1, (((h.seth k).below (drewN_bel _ _ _)).seti (i + 1) (by omega)), gb_two (gb_two (gb_set _ _ _ _) (gb_drewN _ _ _)) (gb_set _ _ _ _)⟩
theorem byte_over2 {w : World} {g B len cap : Nat} {a : Option Addr} (h : Cur w g B a len cap) (k : Int) (q q' : Nat) (x : Int) (h0 : 0 ≤ x) (h1 : x ≤ 255) :
    BytePost w g B a len cap (.returned (.int .i64 x)) (((w.setCell ⟨g, 2, none⟩ (.int .i64 k)).drewN q).drewN q') :=
  ⟨x, rfl, h0, h1, (((h.seth k).below (drewN_bel _ _ _)).below (drewN_bel _ _ _)), gb_two (gb_two (gb_set _ _ _ _) (gb_drewN _ _ _)) (gb_drewN _ _ _)⟩

set_option maxHeartbeats 1000000 in
theorem l01Byte_any (w : World) (g B : Nat) (a : Option Addr) (len cap : Nat) (hc : Cur w g B a len cap) :
    Calls Try.prog 49 #[.pointer (some ⟨g, 0, none⟩)] w fun e w' => BytePost w g B a len cap e w' := by
  have HC : Hid (Cur w g B a len cap) := hc
  obtain ⟨hB, hg, hcode, c0, ⟨i, c1, hi⟩, ⟨h, c2⟩, hf⟩ := hc
  have f1 := hf 1 (by omega)
  have f2 := hf 2 (by omega)
  have hl := hcode.1
  by_cases hlt : i < len
  · obtain ⟨b, off, rfl, hb, hcx⟩ := hcode.2 (by omega)
    obtain ⟨x, c3, x0, x1⟩ := hcx i hlt
    have i0 : (0 : Int) ≤ (i : Int) := by omega
    have i1 : (i : Int) < (len : Int) := by omega
    have hne : b ≠ g := by omega
    clear hcode hf hcx
    go_enter Try.func49, Try.ntmps49
    go_wp2_with fail
    go_quiet (fail)
    go_wp2_with fail
    go_quiet (fail)
    go_wp2_with fail
    go_quiet (fail)
    go_wp2_with fail
    go_ret
    exact byte_more HC.out hlt _ _ _ (by first | omega | (simp only [wrap64]; omega)) _ (and255 _).1 (and255 _).2
  · have i1 : decide ((i : Int) < (len : Int)) = false := by simp; omega
    clear hcode hf
    go_enter Try.func49, Try.ntmps49
    go_wp2_with fail
    go_quiet (fail)
    go_wp2_with fail
    go_quiet (fail)
    go_wp2_with fail
    go_ret
    exact byte_over2 HC.out _ _ _ _ (and255 _).1 (and255 _).2

def BelowPost (w : World) (g B : Nat) (a : Option Addr) (len cap : Nat) (n : Int) (e : Ending) (w' : World) : Prop :=
  ∃ x : Int, e = .returned (.int .i64 x) ∧ 0 ≤ x ∧ (x < n ∨ x = 0) ∧ Cur w' g B a len cap ∧ w.grownBy w' (some g)
set_option maxHeartbeats 1000000 in
theorem l01Below_any (w : World) (g B : Nat) (a : Option Addr) (len cap : Nat) (n : Int) (hn : n ≤ 9223372036854775807) (hc : Cur w g B a len cap) :
    Calls Try.prog 37 #[.pointer (some ⟨g, 0, none⟩), .int .i64 n] w fun e w' => BelowPost w g B a len cap n e w' := by
  have HC : Hid (Cur w g B a len cap) := hc
  clear hc
  by_cases h0 : n ≤ 0
  · go_enter Try.func37, Try.ntmps37
    go_wp2_with fail
    go_ret
    exact ⟨0, rfl, by omega, .inr rfl, HC.out, gb_drewN w 0 _⟩
  · by_cases h1 : n ≤ 256
    · have hnz : (n == 0) = false := by rw [beq_eq_false_iff_ne]; omega
      go_enter Try.func37, Try.ntmps37
      go_wp2_with fail
      refine (l01Byte_any _ g B a len cap HC.out).mono ?_
      rintro e w1 ⟨x, rfl, x0, x1, hc1, hg1⟩
      have HC1 : Hid (Cur w1 g B a len cap) := hc1
      have HG : Hid _ := hg1
      clear hc1 hg1
      go_wp2_with fail
      go_ret
      exact ⟨x % n, rfl, Int.emod_nonneg _ (by omega), .inl (Int.emod_lt_of_pos _ (by omega)), HC1.out, HG.out⟩
    · go_enter Try.func37, Try.ntmps37
      go_wp2_with fail
      refine (l01Byte_any _ g B a len cap HC.out).mono ?_
      rintro e w1 ⟨x, rfl, x0, x1, hc1, hg1⟩
      have HC1 : Hid (Cur w1 g B a len cap) := hc1
      have HG1 : Hid (w.grownBy w1 (some g)) := hg1
      clear hc1 hg1
      go_wp2_with fail
      refine (l01Byte_any _ g B a len cap HC1.out).mono ?_
      rintro e w2 ⟨y, rfl, y0, y1, hc2, hg2⟩
      have HC2 : Hid (Cur w2 g B a len cap) := hc2
      have HG2 : Hid (w.grownBy w2 (some g)) := gb_two HG1.out hg2
      clear hc2 hg2
      go_wp2_with fail
      refine (l01Byte_any _ g B a len cap HC2.out).mono ?_
      rintro e w3 ⟨z, rfl, z0, z1, hc3, hg3⟩
      have HC3 : Hid (Cur w3 g B a len cap) := hc3
      have HG3 : Hid (w.grownBy w3 (some g)) := gb_two HG2.out hg3
      clear hc3 hg3
      go_wp2_with fail
      refine (l01Byte_any _ g B a len cap HC3.out).mono ?_
      rintro e w4 ⟨u, rfl, u0, u1, hc4, hg4⟩
      have HC4 : Hid (Cur w4 g B a len cap) := hc4
      have HG4 : Hid (w.grownBy w4 (some g)) := gb_two HG3.out hg4
      clear hc4 hg4
      go_wp2_with fail
      go_ret
      exact ⟨(x * 16777216 + y * 65536 + z * 256 + u) % n, rfl, Int.emod_nonneg _ (by omega), .inl (Int.emod_lt_of_pos _ (by omega)), HC4.out, HG4.out⟩
end Go.Proofs.Ytdglbakdianjkaa
/- DrawB: The draws of the models, on: a new cursor, a text that is drawn, a long one, a choice. -/
namespace Go.Proofs.Ytdglbakdianjkaa
open Go.RowKit

def NewPost (w : World) (a : Option Addr) (len cap : Nat) (e : Ending) (w' : World) : Prop :=
  ∃ g, e = .returned (.pointer (some ⟨g, 0, none⟩)) ∧ w.heap.size ≤ g ∧ Cur w' g w.heap.size a len cap ∧ Below w.heap.size w w'
theorem new_post {w : World} {a : Option Addr} {len cap : Nat} (hc : CodeAt w w.heap.size a len) (h : Int) :
    NewPost w a len cap (.returned (.pointer (some ⟨w.heap.size, 0, none⟩))) (w.alloc (.cells #[.slice a len cap, .int .i64 0, .int .i64 h] 60)) := by
  have hb : Below w.heap.size w (w.alloc (.cells #[.slice a len cap, .int .i64 0, .int .i64 h] 60)) := (Below.refl _ _).alloc (Nat.le_refl _) _
  refine ⟨_, rfl, Nat.le_refl _, ⟨Nat.le_refl _, by simp, hc.below hb (Nat.le_refl _), ?_, ⟨0, ?_, Nat.zero_le _⟩, ⟨h, ?_⟩, fun j hj => ?_⟩, hb⟩
  · rw [World.cell?_alloc_mark]; rfl
  · rw [World.cell?_alloc_mark]; rfl
  · rw [World.cell?_alloc_mark]; rfl
  · rw [World.frozen?_alloc_mark]; simp

set_option maxRecDepth 100000 in
set_option maxHeartbeats 1000000 in
theorem l01New_any (w : World) (a : Option Addr) (len cap : Nat) (hc : CodeAt w w.heap.size a len) :
    Calls Try.prog 20 #[.slice a len cap] w fun e w' => NewPost w a len cap e w' := by
  have hl := hc.1
  go_enter Try.func20, Try.ntmps20
  go_wp2_with fail
  go_loop [3, 4] (fun h i => ∃ (k : Nat) (hh : Int), h = .int .i64 hh ∧ i = .int .i64 k ∧ k ≤ len) (fun _ i => len - (intOf i).toNat)
  case atStart => exact ⟨0, _, rfl, rfl, Nat.zero_le _⟩
  case round =>
    obtain ⟨k, hh, rfl, rfl, hk⟩ := hrel
    by_cases hlt : k < len
    · by_cases h4 : k < 4000
      · obtain ⟨b, off, rfl, hb, hx⟩ := hc.2 (by omega)
        obtain ⟨x, cx, x0, x1⟩ := hx k hlt
        have k0 : (0 : Int) ≤ (k : Int) := by omega
        have k1 : (k : Int) < (len : Int) := by omega
        clear hx
        go_wp2_with fail
        go_round
        case rel => exact ⟨k + 1, _, rfl, by go_num, by omega⟩
        case measure => simp [intOf]; omega
      · have h4' : ¬ (k : Int) < 4000 := by omega
        go_wp2_with fail
        go_ret
        exact new_post hc _
    · go_wp2_with fail
      go_ret
      exact new_post hc _

def OncePost (w : World) (g B : Nat) (a : Option Addr) (len cap : Nat) (e : Ending) (w' : World) : Prop :=
  ∃ b : Bool, e = .returned (.bool b) ∧ Cur w' g B a len cap ∧ w.grownBy w' (some g)
theorem l01Once_any (w : World) (g B : Nat) (a : Option Addr) (len cap : Nat) (n : Int) (hn : n ≤ 9223372036854775807) (hc : Cur w g B a len cap) :
    Calls Try.prog 31 #[.pointer (some ⟨g, 0, none⟩), .int .i64 n] w fun e w' => OncePost w g B a len cap e w' := by
  have HC : Hid (Cur w g B a len cap) := hc
  clear hc
  go_enter Try.func31, Try.ntmps31
  go_wp2_with fail
  refine (l01Below_any _ g B a len cap n hn HC.out).mono ?_
  rintro e w1 ⟨x, rfl, x0, x1, hc1, hg1⟩
  have HC1 : Hid (Cur w1 g B a len cap) := hc1
  have HG : Hid (w.grownBy w1 (some g)) := hg1
  clear hc1 hg1
  go_wp2_with fail
  go_ret
  exact ⟨x == 0, rfl, HC1.out, HG.out⟩

def TextPost (w : World) (g B : Nat) (a : Option Addr) (len cap : Nat) (n : Nat) (e : Ending) (w' : World) : Prop :=
  ∃ t : ByteArray, e = .returned (.string t) ∧ t.size ≤ n ∧ Cur w' g B a len cap ∧ w.grownBy w' (some g)
def TextIs (w : World) (g B : Nat) (a : Option Addr) (len cap : Nat) (n : Nat) (e : Ending) (w' : World) : Prop :=
  ∃ t : ByteArray, e = .returned (.string t) ∧ t.size = n ∧ Cur w' g B a len cap ∧ w.grownBy w' (some g)
theorem text_step {w wr w2 w3 : World} {g B len cap : Nat} {a : Option Addr} {v v' : Value} {l : List UInt8} {x : Int} {o : Obj} (x0 : 0 ≤ x) (x1 : x ≤ 255) (hs : w.heap.size ≤ wr.heap.size) (hgw : g < w.heap.size)
    (hg : w.grownBy wr (some g)) (hg2 : wr.grownBy w2 (some g)) (hc2 : Cur w2 g B a len cap) (hown : w2.ownsRow w.heap.size 5 1 v l.length (bv l))
    (hown' : w3.ownsRow w.heap.size 5 1 v' (l.length + 1) (bv l ++ [.int .u8 x])) (hgr : (w2.alloc o).grownBy w3 v.ownBlock) :
    Cur w3 g B a len cap ∧ w.grownBy w3 (some g) ∧ w3.ownsRow w.heap.size 5 1 v' (l ++ [UInt8.ofNat x.toNat]).length (bv (l ++ [UInt8.ofNat x.toNat])) := by
  have hlt := hown.lt
  have h2s : wr.heap.size ≤ w2.heap.size := hg2.size
  have hb3 : Below w.heap.size w2 w3 := ((Below.refl _ _).alloc (by omega) o).grown hgr (by simp; omega) (fun j hj => (hlt j hj).1)
  refine ⟨?_, ⟨(hb3.os.trans hg2.os).trans hg.os, (hb3.tape.trans hg2.tape).trans hg.tape, (hb3.output.trans hg2.output).trans hg.output, by have := hb3.size; omega, fun k hk hn => (hb3.block k hk).trans ((hg2.block k (by omega) hn).trans (hg.block k hk hn))⟩, ?_⟩
  · obtain ⟨hB, hgs, hcode, c0, ⟨i, c1, hi⟩, ⟨k, c2⟩, hf⟩ := hc2
    refine ⟨hB, by have := hb3.size; omega, hcode.below hb3 (by omega), (hb3.cell (p := ⟨g, 0, none⟩) hgw).trans c0, ⟨i, (hb3.cell (p := ⟨g, 1, none⟩) hgw).trans c1, hi⟩, ⟨k, (hb3.cell (p := ⟨g, 2, none⟩) hgw).trans c2⟩, fun j hj => (hb3.frozen (p := ⟨g, j, none⟩) hgw).trans (hf j hj)⟩
  · rw [byte_of x x0 (by omega), bv_snoc] at hown'
    simpa using hown'
theorem own_gb {w w' : World} {g C : Nat} {v : Value} {l : List UInt8} (h : w.ownsRow C 5 1 v l.length (bv l)) (hg : w.grownBy w' (some g)) (hC : g < C) : w'.ownsRow C 5 1 v l.length (bv l) :=
  h.kept hg (by
    cases hv : v.ownBlock with
    | none => exact .inl rfl
    | some j => right; have := (h.lt j hv).1; simp; omega)

set_option maxHeartbeats 1000000 in
theorem l01Text_len (w : World) (g B : Nat) (a : Option Addr) (len cap : Nat) (n : Nat) (hn : n ≤ 5000) (hc : Cur w g B a len cap) :
    Calls Try.prog 47 #[.pointer (some ⟨g, 0, none⟩), .int .i64 n] w fun e w' => TextIs w g B a len cap n e w' := by
  obtain ⟨i0, hi, hz0, hz1, hz2⟩ := info_parts Try.info5
  have hgw := hc.2.1
  have HC : Hid (Cur w g B a len cap) := hc
  clear hc
  have hnd : decide ((5000 : Int) < n) = false := by simp; omega
  go_enter Try.func47, Try.ntmps47
  go_wp2_with fail
  go_loopw [5, 6] (fun v i wr => ∃ (k : Nat) (l : List UInt8), i = .int .i64 k ∧ k ≤ n ∧ l.length = k ∧ Cur wr g B a len cap ∧ w.grownBy wr (some g) ∧ wr.ownsRow w.heap.size 5 1 v l.length (bv l)) (fun _ i _ => n - (intOf i).toNat)
  case atStart => exact ⟨0, [], rfl, by omega, rfl, HC.out.below ((Below.refl _ _).alloc (Nat.le_refl _) _), gb_below ((Below.refl _ _).alloc (Nat.le_refl _) _), World.ownsRow_made w #[] 0 (Nat.le_refl _) (by decide) rfl⟩
  case round =>
    obtain ⟨k, l, rfl, hk, hlk, hc1, hg1, hown⟩ := hrel
    have HC1 : Hid (Cur wr g B a len cap) := hc1
    have HG1 : Hid (w.grownBy wr (some g)) := hg1
    have HL : Hid (l.length = k) := hlk
    have hll : l.length ≤ 5000 := by omega
    have hs1 := hg1.size
    clear hc1 hg1 hlk
    by_cases hlt : k < n
    · go_wp2_with fail
      refine (l01Byte_any _ g B a len cap HC1.out).mono ?_
      rintro e w2 ⟨x, rfl, x0, x1, hc2, hg2⟩
      have HC2 : Hid (Cur w2 g B a len cap) := hc2
      have HG2 : Hid (wr.grownBy w2 (some g)) := hg2
      have hown2 := own_gb hown hg2 hgw
      have hs2 := hg2.size
      clear hc2 hg2 hown
      go_wp2_with (at_builtin; refine wpList_append_own _ rfl _ _ 22 rfl w.heap.size 5 i0 (.int .u8 0) 1 1 Try.underlying22 hi hz0 hz1 hz2 rfl (by decide) _ _ _ rfl (hown2.alloc _) ⟨w2.heap.size, 0, none⟩ 1 1 [.int .u8 _] rfl rfl (cell_one_new _ _ _) ?c2 ?c3 ?c4 ?c5 ?_)
      case c2 => first | rfl | (intro u hu; simp at hu; subst hu; rfl)
      case c3 => unfold maxLen; omega
      case c4 => omega
      case c5 => first | omega | (simp; omega)
      · intro v' w3 hown' hgrow _
        obtain ⟨q1, q2, q3⟩ := text_step x0 x1 hs1 hgw HG1.out HG2.out HC2.out hown2 hown' hgrow
        clear hown' hgrow hown2
        go_wp2_with fail
        go_roundw
        case rel => exact ⟨k + 1, _, by go_num, by omega, by have := HL.out; simp; omega, q1, q2, q3⟩
        case measure => simp [intOf]; omega
    · have hcv := own_string hown
      go_wp2_with fail
      go_ret
      exact ⟨⟨l.toArray⟩, rfl, by have := HL.out; show l.length = n; omega, HC1.out, HG1.out⟩
theorem l01Text_any (w : World) (g B : Nat) (a : Option Addr) (len cap : Nat) (n : Nat) (hn : n ≤ 5000) (hc : Cur w g B a len cap) :
    Calls Try.prog 47 #[.pointer (some ⟨g, 0, none⟩), .int .i64 n] w fun e w' => TextPost w g B a len cap n e w' :=
  (l01Text_len w g B a len cap n hn hc).mono fun _ _ ⟨t, he, hs, h⟩ => ⟨t, he, Nat.le_of_eq hs, h⟩
end Go.Proofs.Ytdglbakdianjkaa
/- DrawP: The draws of a text and of places: what is drawn lies within its bounds; nothing that was there is turned. -/
namespace Go.Proofs.Ytdglbakdianjkaa
open Go.RowKit

def SumDrawn (w : World) (e : Ending) (w' : World) : Prop := ∃ t : ByteArray, e = .returned (.string t) ∧ t.size ≤ 40 ∧ Below w.heap.size w w'
theorem infoInt : (Try.prog.info? 3).map (fun i => (i.zero, i.size, i.bytes)) = some (some (.int .i64 0), 1, 8) := by kernel_rfl
/-- Numbers, as the model holds them. -/
def iv (l : List Int) : List Value := l.map fun x => .int .i64 x
theorem row_step {w wr w2 w3 : World} {g B len cap n : Nat} {t : TypeId} {a : Option Addr} {v : Value} {vs : List Value} {o : Obj} (hs : w.heap.size ≤ wr.heap.size) (hgw : g < w.heap.size)
    (hg : w.grownBy wr (some g)) (hg2 : wr.grownBy w2 (some g)) (hc2 : Cur w2 g B a len cap) (hown : w2.ownsRow w.heap.size t 1 v n vs) (hgr : (w2.alloc o).grownBy w3 v.ownBlock) :
    Cur w3 g B a len cap ∧ w.grownBy w3 (some g) := by
  have hlt := hown.lt
  have h2s : wr.heap.size ≤ w2.heap.size := hg2.size
  have hb3 : Below w.heap.size w2 w3 := ((Below.refl _ _).alloc (by omega) o).grown hgr (by simp; omega) (fun j hj => (hlt j hj).1)
  refine ⟨?_, ⟨(hb3.os.trans hg2.os).trans hg.os, (hb3.tape.trans hg2.tape).trans hg.tape, (hb3.output.trans hg2.output).trans hg.output, by have := hb3.size; omega, fun k hk hn => (hb3.block k hk).trans ((hg2.block k (by omega) hn).trans (hg.block k hk hn))⟩⟩
  obtain ⟨hB, hgs, hcode, c0, ⟨i, c1, hi⟩, ⟨k, c2⟩, hf⟩ := hc2
  exact ⟨hB, by have := hb3.size; omega, hcode.below hb3 (by omega), (hb3.cell (p := ⟨g, 0, none⟩) hgw).trans c0, ⟨i, (hb3.cell (p := ⟨g, 1, none⟩) hgw).trans c1, hi⟩, ⟨k, (hb3.cell (p := ⟨g, 2, none⟩) hgw).trans c2⟩, fun j hj => (hb3.frozen (p := ⟨g, j, none⟩) hgw).trans (hf j hj)⟩
theorem own_gbr {w w' : World} {g C n : Nat} {t : TypeId} {v : Value} {vs : List Value} (h : w.ownsRow C t 1 v n vs) (hg : w.grownBy w' (some g)) (hC : g < C) : w'.ownsRow C t 1 v n vs :=
  h.kept hg (by
    cases hv : v.ownBlock with
    | none => exact .inl rfl
    | some j => right; have := (h.lt j hv).1; simp; omega)
/-- The places that are drawn: twelve numbers below 10000 in a block of their own. -/
def PlacesDrawn (w : World) (e : Ending) (w' : World) : Prop :=
  ∃ (gp cap : Nat) (l : List Int), e = .returned (.slice (some ⟨gp, 0, none⟩) 12 cap) ∧ w.heap.size ≤ gp ∧ gp < w'.heap.size ∧ l.length = 12 ∧ (∀ x ∈ l, 0 ≤ x ∧ x < 10000) ∧ (∀ j, j < 12 → w'.cell? ⟨gp, j, none⟩ = some (.int .i64 (l.getD j 0))) ∧ Below w.heap.size w w'
theorem places_post {w w1 w' : World} {g n : Nat} {v : Value} {l : List Int} (hw : w.heap.size ≤ w1.heap.size) (hl : l.length = 12) (hx : ∀ x ∈ l, 0 ≤ x ∧ x < 10000) (hn : n = 12) (hown : w'.ownsRow w1.heap.size 3 1 v n (iv l)) (hb1 : Below w.heap.size w w1) (hg : w.heap.size ≤ g) (hgb : w1.grownBy w' (some g)) :
    PlacesDrawn w (.returned v) w' := by
  subst hn
  have hlt := hown.lt
  have hc : ∀ g, v.ownBlock = some g → ∀ j u, (iv l)[j]? = some u → w'.cell? ((⟨g, 0, none⟩ : Addr).add j) = some u := fun g hg => hown.cells hg
  obtain ⟨h1, ⟨rfl, h0⟩ | ⟨gp, cap, cur, rfl, _⟩⟩ := hown
  · omega
  · have h2 := hlt gp rfl
    refine ⟨gp, cap, l, rfl, by omega, h2.2, hl, hx, fun j hj => ?_, hb1.trans (below_gb hgb hg hw)⟩
    have h3 := hc gp rfl j (.int .i64 (l.getD j 0)) (by simp [iv, List.getD, show j < l.length by omega])
    have e : (⟨gp, 0, none⟩ : Addr).add j = ⟨gp, j, none⟩ := by cases j <;> simp [Addr.add]
    rwa [e] at h3
theorem cell_block {w : World} {a : Addr} {v : Value} (h : w.cell? a = some v) : a.block < w.heap.size := by
  by_cases hb : a.block < w.heap.size
  · exact hb
  · unfold World.cell? at h
    rw [Array.getElem?_eq_none (by omega)] at h
    simp at h
theorem code_at {w : World} {a : Option Addr} {len cap : Nat} {zs : List Int} (hl : len ≤ 1048576)
    (h : (a = none ∧ len = 0) ∨ ∃ x, a = some x ∧ len ≤ cap ∧ zs.length = cap ∧ (∀ i, i < zs.length → w.cell? (x.add i) = some (.int .u8 (zs.getD i 0))) ∧ ∀ n ∈ zs, (Lit.int .u8 n).wf = true) : CodeAt w w.heap.size a len := by
  refine ⟨hl, fun hp => ?_⟩
  rcases h with ⟨_, h0⟩ | ⟨x, rfl, hlc, hz, hc, hw⟩
  · omega
  · obtain ⟨b, off, spot⟩ := x
    have hs : spot = none := by simpa [Addr.add] using World.cell?_spot (hc 0 (by omega))
    subst hs
    refine ⟨b, off, rfl, ?_, fun j hj => ?_⟩
    · have := cell_block (hc 0 (by omega)); simpa [Addr.add] using this
    · have h1 := hc j (by omega)
      have e : (⟨b, off, none⟩ : Addr).add j = ⟨b, off + j, none⟩ := by cases j <;> simp [Addr.add]
      rw [e] at h1
      have hm : zs.getD j 0 ∈ zs := by
        have : j < zs.length := by omega
        simp [List.getD, this]
      have := bounds_u8 (hw _ hm)
      exact ⟨_, h1, this.1, by omega⟩
theorem big_any (a : Option Addr) (len cap : Nat) (w : World) :
    Calls Try.prog 7 #[.slice a len cap] w fun e w' => e = .returned (.bool (decide ((1048576 : Int) < len))) ∧ w' = w := by
  go_enter Try.func7, Try.ntmps7
  go_wp2_with fail
  go_ret
  exact ⟨rfl, rfl⟩
end Go.Proofs.Ytdglbakdianjkaa
/- DrPk: A text that is picked out of a row is one of it. -/
namespace Go.Proofs.Ytdglbakdianjkaa
open Go.RowKit
attribute [local go_sem ↓] Go.wp_at_zero Go.wp_at_succ

/-- No byte of it is a z. -/
def noZ (t : ByteArray) : Bool := t.data.toList.all (· != 122)
theorem noZ_app (a b : ByteArray) : noZ (a ++ b) = (noZ a && noZ b) := by unfold noZ; rw [ByteArray.toList_data_append, List.all_append]
def PickPostS (P : ByteArray → Prop) (w : World) (g B : Nat) (a : Option Addr) (len cap : Nat) (e : Ending) (w' : World) : Prop :=
  ∃ x : ByteArray, e = .returned (.string x) ∧ P x ∧ Cur w' g B a len cap ∧ w.grownBy w' (some g)
set_option maxHeartbeats 400000 in
theorem l01Pick_in (P : ByteArray → Prop) (w : World) (g B : Nat) (a : Option Addr) (len cap : Nat) (gl m : Nat) (hm : 0 < m) (hm2 : m ≤ 1000) (hne : gl ≠ g) (hl : ∀ j, j < m → ∃ y : ByteArray, w.cell? ⟨gl, j, none⟩ = some (.string y) ∧ P y) (hc : Cur w g B a len cap) :
    Calls Try.prog 50 #[.pointer (some ⟨g, 0, none⟩), .slice (some ⟨gl, 0, none⟩) m m] w fun e w' => PickPostS P w g B a len cap e w' := by
  have HC : Hid (Cur w g B a len cap) := hc
  have HL : Hid (∀ j, j < m → ∃ y : ByteArray, w.cell? ⟨gl, j, none⟩ = some (.string y) ∧ P y) := hl
  clear hc hl
  go_enter Try.func50, Try.ntmps50
  go_wp2_with fail
  refine (l01Below_any _ g B a len cap m (by omega) HC.out).mono ?_
  rintro e w1 ⟨x, rfl, x0, x1, hc1, hg1⟩
  have HC1 : Hid (Cur w1 g B a len cap) := hc1
  have HG : Hid (w.grownBy w1 (some g)) := hg1
  obtain ⟨j, rfl⟩ := Int.eq_ofNat_of_zero_le x0
  obtain ⟨y, hy, hp⟩ := HL.out j (by omega)
  have c1 := hg1.cell hy (by simp; omega)
  have j1 : (j : Int) < (m : Int) := by omega
  have HP : Hid (P y) := hp
  clear hc1 hg1 hy hp
  go_wp2_with fail
  go_ret
  exact ⟨y, rfl, HP.out, HC1.out, HG.out⟩
/-- Texts that were laid into a new row. -/
theorem new_texts (w : World) (t : TypeId) (P : ByteArray → Prop) (L : List ByteArray) (h : ∀ y ∈ L, P y) (j : Nat) (hj : j < L.length) :
    ∃ y : ByteArray, (w.alloc (.cells (L.map Value.string).toArray t)).cell? ⟨w.heap.size, j, none⟩ = some (.string y) ∧ P y := by
  rw [World.cell?_alloc_mark]
  exact ⟨L[j], by simp [hj], h _ (List.getElem_mem hj)⟩
end Go.Proofs.Ytdglbakdianjkaa
/- RowsG: Rows of cells in memory, for elements of any number of cells: what a row holds, and a row that may be written. Nothing of the program is read here. -/
namespace Go.Proofs.Ytdglbakdianjkaa
open Go.RowKit

theorem flat_len {α : Type} {enc : α → List Value} {sz : Nat} (hsz : ∀ x, (enc x).length = sz) (xs : List α) : (xs.flatMap enc).length = xs.length * sz := by
  induction xs with
  | nil => simp
  | cons x xs ih => simp only [List.flatMap_cons, List.length_append, List.length_cons, ih, hsz, Nat.add_mul]; omega
theorem flat_get {α : Type} {enc : α → List Value} {sz : Nat} (hsz : ∀ x, (enc x).length = sz) (xs : List α) (j : Nat) (h : j < xs.length) (i : Nat) (hi : i < sz) : (xs.flatMap enc)[j * sz + i]? = (enc xs[j])[i]? := by
  induction xs generalizing j with
  | nil => simp at h
  | cons x xs ih =>
    rw [List.flatMap_cons]
    cases j with
    | zero =>
      rw [List.getElem?_append_left (by rw [hsz]; omega)]
      simp
    | succ j =>
      rw [List.getElem?_append_right (by rw [hsz, Nat.add_mul]; omega), hsz]
      have := ih j (by simpa using h)
      rw [show (j + 1) * sz + i - sz = j * sz + i by rw [Nat.add_mul]; omega]
      simpa using this
theorem flat_set {α : Type} {enc : α → List Value} {sz : Nat} (hsz : ∀ x, (enc x).length = sz) (xs : List α) (j : Nat) (h : j < xs.length) (y : α) (n : Nat) (hn : n < xs.length * sz) :
    ((xs.set j y).flatMap enc)[n]? = if n / sz = j then (enc y)[n % sz]? else (xs.flatMap enc)[n]? := by
  have hp : 0 < sz := by
    cases sz with
    | zero => simp at hn
    | succ s => omega
  have hq : n / sz < xs.length := Nat.div_lt_of_lt_mul (by rwa [Nat.mul_comm] at hn)
  have hr := Nat.mod_lt n hp
  have e : n = n / sz * sz + n % sz := by rw [Nat.mul_comm]; exact (Nat.div_add_mod n sz).symm
  have l1 := flat_get hsz (xs.set j y) (n / sz) (by simpa using hq) (n % sz) hr
  have l2 := flat_get hsz xs (n / sz) hq (n % sz) hr
  rw [← e] at l1 l2
  rw [l1, l2]
  by_cases c : n / sz = j
  · subst c; simp
  · rw [if_neg c, List.getElem_set_ne (Ne.symm c)]

/-- A row of cells, from a place on. -/
def CRow (w : World) (a : Option Addr) (L : List Value) : Prop :=
  0 < L.length → ∃ b off, a = some ⟨b, off, none⟩ ∧ b < w.heap.size ∧ ∀ i v, L[i]? = some v → w.cell? ⟨b, off + i, none⟩ = some v
theorem CRow.stays {w w' : World} {a : Option Addr} {L : List Value} (h : CRow w a L) (hb : Below w.heap.size w w') : CRow w' a L := by
  intro hp
  obtain ⟨b, off, e, hlt, hc⟩ := h hp
  exact ⟨b, off, e, Nat.lt_of_lt_of_le hlt hb.size, fun i v hv => by rw [hb.cell (p := ⟨b, off + i, none⟩) hlt]; exact hc i v hv⟩
/-- A row of cells that may be written, in a block of its own. -/
def WCells (w : World) (g : Nat) (L : List Value) : Prop :=
  g < w.heap.size ∧ ∀ i v, L[i]? = some v → w.cell? ⟨g, i, none⟩ = some v ∧ w.frozen? ⟨g, i, none⟩ = false
theorem WCells.crow {w : World} {g : Nat} {L : List Value} (h : WCells w g L) : CRow w (some ⟨g, 0, none⟩) L := fun _ => ⟨g, 0, rfl, h.1, fun i v hv => by rw [Nat.zero_add]; exact (h.2 i v hv).1⟩
theorem WCells.below {w w' : World} {g B : Nat} {L : List Value} (h : WCells w g L) (hb : Below B w w') (hg : g < B) : WCells w' g L :=
  ⟨Nat.lt_of_lt_of_le h.1 hb.size, fun i v hv => ⟨(hb.cell (p := ⟨g, i, none⟩) hg).trans (h.2 i v hv).1, (hb.frozen (p := ⟨g, i, none⟩) hg).trans (h.2 i v hv).2⟩⟩
theorem WCells.set {w : World} {g : Nat} {L : List Value} (h : WCells w g L) (i : Nat) (x : Value) (hi : i < L.length) : WCells (w.setCell ⟨g, i, none⟩ x) g (L.set i x) := by
  refine ⟨by have := h.1; simpa [World.setCell] using this, fun j v hv => ?_⟩
  have hj : j < L.length := by
    have := (List.getElem?_eq_some_iff.1 hv).1
    simpa using this
  have hold := h.2 j L[j] (List.getElem?_eq_getElem hj)
  refine ⟨?_, (World.frozen?_setCell _ _ _ _).trans hold.2⟩
  by_cases e : j = i
  · subst e
    rw [World.cell?_setCell_same _ _ _ hold.1]
    rw [List.getElem?_set_self hi] at hv
    exact hv
  · rw [World.cell?_setCell_other _ _ _ _ (by first | (simp; done) | (simp; omega)), hold.1]
    rw [List.getElem?_set_ne (Ne.symm e), List.getElem?_eq_getElem hj] at hv
    exact hv
theorem own_wcells {w : World} {B g n cap t sz : Nat} {L : List Value} (h : w.ownsRow B t sz (.slice (some ⟨g, 0, none⟩) n cap) n L) : WCells w g L := by
  have hc := h.cells (g := g) rfl
  have hlt := h.lt g rfl
  obtain ⟨_, ⟨h0, _⟩ | ⟨g', cap', cur, he, hB, hcur, _, _, _, _⟩⟩ := h
  · cases h0
  · have eg : g' = g := by simp at he; exact he.1.symm
    subst eg
    refine ⟨hlt.2, fun j v hj => ⟨?_, ?_⟩⟩
    · have := hc j v hj
      have e : (⟨g', 0, none⟩ : Addr).add j = ⟨g', j, none⟩ := by cases j <;> simp [Addr.add]
      rw [e] at this
      exact this
    · unfold World.frozen?
      rw [hcur]; simp

/-- Cells laid one behind the other: in a list, and in a world. -/
def setL (L : List Value) (off : Nat) : List Value → List Value
  | [] => L
  | v :: vs => setL (L.set off v) (off + 1) vs
def setW (w : World) (g off : Nat) : List Value → World
  | [] => w
  | v :: vs => setW (w.setCell ⟨g, off, none⟩ v) g (off + 1) vs
theorem setL_cons (c : Value) (L : List Value) (off : Nat) (vs : List Value) : setL (c :: L) (off + 1) vs = c :: setL L off vs := by
  induction vs generalizing L off with
  | nil => rfl
  | cons v vs ih => simp only [setL, List.set_cons_succ]; exact ih _ _
theorem setL_app (A L : List Value) (off : Nat) (vs : List Value) : setL (A ++ L) (A.length + off) vs = A ++ setL L off vs := by
  induction A with
  | nil => simp
  | cons a A ih => rw [List.cons_append, List.length_cons, show A.length + 1 + off = (A.length + off) + 1 by omega, setL_cons, ih]; rfl
theorem setL_head (A R B : List Value) (h : A.length = B.length) : setL (A ++ R) 0 B = B ++ R := by
  induction B generalizing A with
  | nil => simp at h; subst h; rfl
  | cons b B ih =>
    cases A with
    | nil => simp at h
    | cons a A =>
      simp only [List.cons_append, setL, List.set_cons_zero, setL_cons]
      rw [ih A (by simpa using h)]
theorem flat_setL {α : Type} {enc : α → List Value} {sz : Nat} (hsz : ∀ x, (enc x).length = sz) (xs : List α) (j : Nat) (h : j < xs.length) (y : α) : setL (xs.flatMap enc) (j * sz) (enc y) = (xs.set j y).flatMap enc := by
  induction xs generalizing j with
  | nil => simp at h
  | cons x xs ih =>
    cases j with
    | zero =>
      simp only [Nat.zero_mul, List.flatMap_cons, List.set_cons_zero]
      exact setL_head _ _ _ (by rw [hsz, hsz])
    | succ j =>
      simp only [List.flatMap_cons, List.set_cons_succ]
      rw [show (j + 1) * sz = (enc x).length + j * sz by rw [hsz, Nat.add_mul]; omega, setL_app, ih j (by simpa using h)]
theorem setL_len (L : List Value) (off : Nat) (vs : List Value) : (setL L off vs).length = L.length := by
  induction vs generalizing L off with
  | nil => rfl
  | cons v vs ih => simp only [setL]; rw [ih]; simp
theorem WCells.setW {w : World} {g : Nat} {L : List Value} (h : WCells w g L) (off : Nat) (vs : List Value) (hl : off + vs.length ≤ L.length) : WCells (setW w g off vs) g (setL L off vs) := by
  induction vs generalizing w L off with
  | nil => exact h
  | cons v vs ih =>
    simp only [List.length_cons] at hl
    exact ih (h.set off v (by omega)) (off + 1) (by rw [List.length_set]; omega)
/-- An element of a row is laid anew. -/
theorem WCells.setElem {α : Type} {enc : α → List Value} {sz : Nat} (hsz : ∀ x, (enc x).length = sz) {w : World} {g : Nat} {xs : List α} (h : WCells w g (xs.flatMap enc)) (j : Nat) (hj : j < xs.length) (y : α) :
    WCells (Go.Proofs.Ytdglbakdianjkaa.setW w g (j * sz) (enc y)) g ((xs.set j y).flatMap enc) := by
  have hl : j * sz + (enc y).length ≤ (xs.flatMap enc).length := by
    rw [hsz, flat_len hsz]
    have := Nat.mul_le_mul_right sz (show j + 1 ≤ xs.length by omega)
    rw [Nat.add_mul] at this; omega
  have := h.setW (j * sz) (enc y) hl
  rwa [flat_setL hsz xs j hj y] at this
theorem below_setW {B g : Nat} {a w : World} (h : Below B a w) (hg : B ≤ g) (off : Nat) (vs : List Value) : Below B a (setW w g off vs) := by
  induction vs generalizing w off with
  | nil => exact h
  | cons v vs ih => exact ih (h.setCell (p := ⟨g, off, none⟩) hg v) _
/-- What 'make' lays, for elements of some cells. -/
theorem made_flat {α : Type} {enc : α → List Value} {sz : Nat} (hsz : ∀ x, (enc x).length = sz) (hp : 0 < sz) (z : Array Value) (d : α) (hz : z.toList = enc d) (n : Nat) : (madeCells z (n * sz)).toList = (List.replicate n d).flatMap enc := by
  have hzs : z.size = sz := by rw [← Array.length_toList, hz, hsz]
  apply List.ext_getElem?
  intro i
  by_cases hi : i < n * sz
  · have hq : i / sz < n := Nat.div_lt_of_lt_mul (by rwa [Nat.mul_comm] at hi)
    have hr := Nat.mod_lt i hp
    have e : i = i / sz * sz + i % sz := by rw [Nat.mul_comm]; exact (Nat.div_add_mod i sz).symm
    have l1 := flat_get hsz (List.replicate n d) (i / sz) (by simpa using hq) (i % sz) hr
    rw [← e] at l1
    rw [l1, List.getElem_replicate, ← hz]
    unfold madeCells
    have h3 : i % sz < z.size := by omega
    simp [hi, hzs]
    rw [getElem!_pos z (i % sz) h3, Array.getElem?_eq_getElem h3]
  · rw [List.getElem?_eq_none (by rw [Array.length_toList, size_madeCells]; omega), List.getElem?_eq_none (by rw [flat_len hsz]; simp; omega)]
theorem wcells_new (w : World) (cs : Array Value) (t : TypeId) : WCells (w.alloc (.cells cs t)) w.heap.size cs.toList := by
  refine ⟨by simp, fun i v hv => ⟨?_, ?_⟩⟩
  · rw [World.cell?_alloc_new]; simpa using hv
  · unfold World.frozen?
    rw [heap_alloc_new]; simp
theorem WCells.alloc {w : World} {g : Nat} {L : List Value} (h : WCells w g L) (o : Obj) : WCells (w.alloc o) g L := h.below ((Below.refl _ _).alloc (Nat.le_refl _) o) h.1
theorem WCells.grow {w w' : World} {g : Nat} {L : List Value} (h : WCells w g L) (hb : Below w.heap.size w w') : WCells w' g L := h.below hb h.1
theorem WCells.other {w : World} {g : Nat} {L : List Value} (h : WCells w g L) (p : Addr) (x : Value) (hp : g ≠ p.block) : WCells (w.setCell p x) g L := by
  refine ⟨by have := h.1; simpa [World.setCell] using this, fun j v hv => ?_⟩
  have hold := h.2 j v hv
  refine ⟨?_, (World.frozen?_setCell _ _ _ _).trans hold.2⟩
  rw [← hold.1]
  exact World.cell?_of_block (Below.heap_setCell w p x g hp)
/-- A fact that no tactic parts. -/
structure Shut (p : Prop) : Prop where
  out : p
end Go.Proofs.Ytdglbakdianjkaa
/- DrPth: The draws of paths. -/
namespace Go.Proofs.Ytdglbakdianjkaa
open Go.RowKit
attribute [local go_sem ↓] Go.wp_at_zero Go.wp_at_succ

def PathPost (m : Nat) (w : World) (g B : Nat) (a : Option Addr) (len cap : Nat) (e : Ending) (w' : World) : Prop :=
  ∃ t : ByteArray, e = .returned (.string t) ∧ (t.size ≤ m ∧ noZ t = true) ∧ Cur w' g B a len cap ∧ w.grownBy w' (some g)
set_option maxRecDepth 100000 in
set_option maxHeartbeats 1000000 in
theorem l09Path_any (w : World) (g B : Nat) (a : Option Addr) (len cap : Nat) (hc : Cur w g B a len cap) :
    Calls Try.prog 48 #[.pointer (some ⟨g, 0, none⟩)] w fun e w' => PathPost 16 w g B a len cap e w' := by
  have HC := Shut.mk hc
  have hgw := hc.2.1
  clear hc
  go_enter Try.func48, Try.ntmps48
  go_wp2_with fail
  go_loopw [3, 4] (fun s i wr => ∃ (k : Nat) (t : ByteArray), s = .string t ∧ i = .int .i64 k ∧ k ≤ 3 ∧ t.size ≤ 4 * k ∧ Shut (noZ t = true) ∧ Shut (Cur wr g B a len cap) ∧ Shut (w.grownBy wr (some g))) (fun _ i _ => 3 - (intOf i).toNat)
  case atStart => exact ⟨0, _, rfl, rfl, by omega, by decide, ⟨rfl⟩, HC, ⟨gb_below (Below.refl _ _)⟩⟩
  case round =>
    clear HC
    obtain ⟨k, t, rfl, rfl, hk, ht, hz, hcur, hgr⟩ := hrel
    have k0 : (0 : Int) ≤ (k : Int) := by omega
    go_wp2_with fail
    refine (l01Below_any _ g B a len cap 3 (by omega) hcur.out).mono ?_
    rintro e w1 ⟨x, rfl, x0, x1, hc1, hg1⟩
    obtain ⟨m, rfl⟩ := Int.eq_ofNat_of_zero_le x0
    have HC1 := Shut.mk hc1
    have HG1 := Shut.mk (gb_two hgr.out hg1)
    have hg1w := hc1.2.1
    clear hc1 hg1 hcur hgr
    by_cases hlt : k < 1 + m
    · have hlt' : (k : Int) < 1 + (m : Int) := by omega
      have hlit : (#[.string ⟨#[97]⟩, .string ⟨#[98]⟩, .string ⟨#[99]⟩] : Array Value) = (List.map Value.string [⟨#[97]⟩, ⟨#[98]⟩, ⟨#[99]⟩]).toArray := rfl
      have HL := Shut.mk (new_texts w1 9 (fun y => y.size ≤ 3 ∧ noZ y = true) [⟨#[97]⟩, ⟨#[98]⟩, ⟨#[99]⟩] (by decide))
      rw [← hlit] at HL
      clear hlit
      go_wp2_with fail
      refine (l01Pick_in (fun y => y.size ≤ 3 ∧ noZ y = true) _ g B a len cap w1.heap.size 3 (by decide) (by decide) (by omega) HL.out (HC1.out.below ((Below.refl _ _).alloc (Nat.le_refl _) _))).mono ?_
      rintro e w2 ⟨y, rfl, ⟨hy, hyz⟩, hc2, hg2⟩
      have HZ : Shut (noZ (t ++ ⟨#[47]⟩ ++ y) = true) := ⟨by rw [noZ_app, noZ_app, hz.out, hyz]; rfl⟩
      clear hyz
      have HC2 := Shut.mk hc2
      have HG2 := Shut.mk (gb_two HG1.out (gb_two (gb_below ((Below.refl _ _).alloc (Nat.le_refl _) _)) hg2))
      clear hc2 hg2
      go_wp2_with fail
      go_roundw
      case rel => exact ⟨k + 1, _, rfl, by go_num, by omega, by
        have : (⟨#[47]⟩ : ByteArray).size = 1 := rfl
        simp only [ByteArray.size_append]; omega, HZ, HC2, HG2⟩
      case measure => simp [intOf]; omega
    · have hlt' : ¬ (k : Int) < 1 + (m : Int) := by omega
      go_wp2_with fail
      go_ret
      exact ⟨t, rfl, ⟨by omega, hz.out⟩, HC1.out, HG1.out⟩
theorem any_texts (w : World) (j : Nat) (hj : j < 11) : ∃ y : ByteArray, (w.alloc (.cells #[.string ⟨#[]⟩, .string ⟨#[47]⟩, .string ⟨#[97]⟩, .string ⟨#[47, 65]⟩, .string ⟨#[47, 47]⟩, .string ⟨#[47, 97, 47]⟩, .string ⟨#[47, 97, 47, 47, 98]⟩, .string ⟨#[47, 97, 47, 98, 47, 99, 47, 97]⟩, .string ⟨#[47, 97, 47, 98, 47, 99, 47, 97, 47, 98]⟩, .string ⟨#[47, 97, 98, 99, 100, 101, 102, 103, 104]⟩, .string ⟨#[47, 97, 98, 99, 100, 101, 102, 103, 104, 105]⟩] 9)).cell? ⟨w.heap.size, j, none⟩ = some (.string y) ∧ (y.size ≤ 16 ∧ noZ y = true) :=
  new_texts w 9 (fun y => y.size ≤ 16 ∧ noZ y = true) [⟨#[]⟩, ⟨#[47]⟩, ⟨#[97]⟩, ⟨#[47, 65]⟩, ⟨#[47, 47]⟩, ⟨#[47, 97, 47]⟩, ⟨#[47, 97, 47, 47, 98]⟩, ⟨#[47, 97, 47, 98, 47, 99, 47, 97]⟩, ⟨#[47, 97, 47, 98, 47, 99, 47, 97, 47, 98]⟩, ⟨#[47, 97, 98, 99, 100, 101, 102, 103, 104]⟩, ⟨#[47, 97, 98, 99, 100, 101, 102, 103, 104, 105]⟩] (by decide) j hj
set_option maxRecDepth 100000 in
set_option maxHeartbeats 1000000 in
theorem l09Any_any (w : World) (g B : Nat) (a : Option Addr) (len cap : Nat) (hc : Cur w g B a len cap) :
    Calls Try.prog 38 #[.pointer (some ⟨g, 0, none⟩)] w fun e w' => PathPost 16 w g B a len cap e w' := by
  have HC := Shut.mk hc
  clear hc
  go_enter Try.func38, Try.ntmps38
  go_wp2_with fail
  refine (l01Once_any _ g B a len cap 6 (by omega) HC.out).mono ?_
  rintro e w1 ⟨b, rfl, hc1, hg1⟩
  have HC1 := Shut.mk hc1
  have HG1 := Shut.mk hg1
  have hgw := hc1.2.1
  clear hc1 hg1 HC
  cases b with
  | true =>
    have HL := Shut.mk (any_texts w1)
    go_wp2_with fail
    refine (l01Pick_in (fun y => y.size ≤ 16 ∧ noZ y = true) _ g B a len cap w1.heap.size 11 (by decide) (by decide) (by omega) HL.out (HC1.out.below ((Below.refl _ _).alloc (Nat.le_refl _) _))).mono ?_
    rintro e w2 ⟨y, rfl, hy, hc2, hg2⟩
    have HC2 := Shut.mk hc2
    have HG2 := Shut.mk (gb_two HG1.out (gb_two (gb_below ((Below.refl _ _).alloc (Nat.le_refl _) _)) hg2))
    clear hc2 hg2
    go_wp2_with fail
    go_ret
    exact ⟨y, rfl, hy, HC2.out, HG2.out⟩
  | false =>
    go_wp2_with fail
    refine (l09Path_any _ g B a len cap HC1.out).mono ?_
    rintro e w2 ⟨t, rfl, ht, hc2, hg2⟩
    have HC2 := Shut.mk hc2
    have HG2 := Shut.mk (gb_two HG1.out hg2)
    clear hc2 hg2
    go_wp2_with fail
    go_ret
    exact ⟨t, rfl, ht, HC2.out, HG2.out⟩
end Go.Proofs.Ytdglbakdianjkaa
/- BRowM: Rows of bytes that may be written: of a call's own, and made of a text. -/
namespace Go.Proofs.Ytdglbakdianjkaa
open Go.RowKit

/-- A row of bytes that may be written. -/
def BRow (w : World) (g : Nat) (l : List UInt8) : Prop :=
  g < w.heap.size ∧ ∀ j, j < l.length → w.cell? ⟨g, j, none⟩ = some (.int .u8 ((l.getD j 0).toNat : Int)) ∧ w.frozen? ⟨g, j, none⟩ = false
theorem BRow.set {w : World} {g : Nat} {l : List UInt8} (h : BRow w g l) (i : Nat) (x : UInt8) (hi : i < l.length) : BRow (w.setCell ⟨g, i, none⟩ (.int .u8 (x.toNat : Int))) g (l.set i x) := by
  refine ⟨by have := h.1; simpa [World.setCell] using this, fun j hj => ?_⟩
  rw [List.length_set] at hj
  refine ⟨?_, (World.frozen?_setCell _ _ _ _).trans (h.2 j hj).2⟩
  by_cases e : j = i
  · subst e
    rw [World.cell?_setCell_same _ _ _ (h.2 j hj).1]
    simp [List.getD, hi]
  · rw [World.cell?_setCell_other _ _ _ _ (by first | (simp; done) | (simp; omega)), (h.2 j hj).1]
    simp [List.getD, Ne.symm e]
theorem own_brow {w : World} {B g n cap : Nat} {l : List UInt8} (h : w.ownsRow B 5 1 (.slice (some ⟨g, 0, none⟩) n cap) n (bv l)) : BRow w g l := by
  have hc := h.cells (g := g) rfl
  have hlt := h.lt g rfl
  obtain ⟨_, ⟨h0, _⟩ | ⟨g', cap', cur, he, hB, hcur, _, _, _, _⟩⟩ := h
  · cases h0
  · have eg : g' = g := by simp at he; exact he.1.symm
    subst eg
    refine ⟨hlt.2, fun j hj => ⟨?_, ?_⟩⟩
    · have := hc j _ (show (bv l)[j]? = some _ by simp [bv, hj]; rfl)
      have e : (⟨g', 0, none⟩ : Addr).add j = ⟨g', j, none⟩ := by cases j <;> simp [Addr.add]
      rw [e] at this
      simpa [List.getD, hj] using this
    · unfold World.frozen?
      rw [hcur]; simp
theorem brow_string {w : World} {g cap : Nat} {l : List UInt8} (h : BRow w g l) :
    (convert 22 9 (.slice (some ⟨g, 0, none⟩) l.length cap)).run Try.prog w = .ok (.string ⟨l.toArray⟩) w :=
  run_convert_bytes_back w 22 9 5 ⟨g, 0, none⟩ cap l Try.underlying22 Try.underlying5 Try.underlying9 (fun j hj => by
    have e : (⟨g, 0, none⟩ : Addr).add j = ⟨g, j, none⟩ := by cases j <;> simp [Addr.add]
    rw [e, (h.2 j hj).1]
    simp [List.getD, hj])
/-- The bytes of a text, in a block of their own. -/
theorem bytes_made (w : World) (s : ByteArray) : ∃ (w' : World) (c : Nat), (convert 9 22 (.string s)).run Try.prog w = .ok (.slice (some ⟨w.heap.size, 0, none⟩) s.size c) w' ∧ BRow w' w.heap.size s.data.toList ∧ Below w.heap.size w w' := by
  refine ⟨_, _, run_bytes_of_string w 9 22 5 s Try.underlying9 Try.underlying22 Try.underlying5, ⟨?_, fun j hj => ⟨?_, ?_⟩⟩, ?_⟩
  · show w.heap.size < (w.heap.push _).size
    simp
  · rw [show w.heap.size = w.drew.heap.size from rfl, World.cell?_alloc_mark]
    have hj' : j < s.data.size := by simpa using hj
    unfold bytesRow
    rw [Array.getElem?_append_left (by simpa using hj')]
    simp only [Array.getElem?_map, List.getD, Array.getElem?_toList]
    rw [Array.getElem?_eq_getElem hj']
    rfl
  · rw [show w.heap.size = w.drew.heap.size from rfl, World.frozen?_alloc_mark]
    have hj' : j < s.data.size := by simpa using hj
    have h2 : j < (bytesRow s (grownCap w s.size 0 5)).size := by unfold bytesRow; rw [Array.size_append, Array.size_map]; omega
    rw [decide_eq_false (show ¬ (bytesRow s (grownCap w s.size 0 5)).size ≤ j by omega)]
    rfl
  · exact (Below.drew (Below.refl _ _)).alloc (Nat.le_refl _) _
end Go.Proofs.Ytdglbakdianjkaa
/- DrawC: The draws of chapter 1. -/
namespace Go.Proofs.Ytdglbakdianjkaa
open Go.RowKit

def IntPost (w : World) (g B : Nat) (a : Option Addr) (len cap : Nat) (e : Ending) (w' : World) : Prop :=
  ∃ x : Int, e = .returned (.int .i64 x) ∧ Cur w' g B a len cap ∧ w.grownBy w' (some g)
set_option maxHeartbeats 400000 in
theorem l01PickInt_any (w : World) (g B : Nat) (a : Option Addr) (len cap : Nat) (gl m : Nat) (hm : 0 < m) (hm2 : m ≤ 1000) (hne : gl ≠ g) (hl : ∀ j, j < m → ∃ y : Int, w.cell? ⟨gl, j, none⟩ = some (.int .i64 y)) (hc : Cur w g B a len cap) :
    Calls Try.prog 39 #[.pointer (some ⟨g, 0, none⟩), .slice (some ⟨gl, 0, none⟩) m m] w fun e w' => IntPost w g B a len cap e w' := by
  have HC : Hid (Cur w g B a len cap) := hc
  have HL : Hid (∀ j, j < m → ∃ y : Int, w.cell? ⟨gl, j, none⟩ = some (.int .i64 y)) := hl
  clear hc hl
  go_enter Try.func39, Try.ntmps39
  go_wp2_with fail
  refine (l01Below_any _ g B a len cap m (by omega) HC.out).mono ?_
  rintro e w1 ⟨x, rfl, x0, x1, hc1, hg1⟩
  have HC1 : Hid (Cur w1 g B a len cap) := hc1
  have HG : Hid (w.grownBy w1 (some g)) := hg1
  obtain ⟨j, rfl⟩ := Int.eq_ofNat_of_zero_le x0
  obtain ⟨y, hy⟩ := HL.out j (by omega)
  have c1 := hg1.cell hy (by simp; omega)
  have j1 : (j : Int) < (m : Int) := by omega
  clear hc1 hg1 hy
  go_wp2_with fail
  go_ret
  exact ⟨y, rfl, HC1.out, HG.out⟩

theorem ten_ints (w : World) (t : TypeId) (y0 y1 y2 y3 y4 y5 y6 y7 y8 y9 : Int) (j : Nat) (hj : j < 10) :
    ∃ y : Int, (w.alloc (.cells #[.int .i64 y0, .int .i64 y1, .int .i64 y2, .int .i64 y3, .int .i64 y4, .int .i64 y5, .int .i64 y6, .int .i64 y7, .int .i64 y8, .int .i64 y9] t)).cell? ⟨w.heap.size, j, none⟩ = some (.int .i64 y) := by
  rw [World.cell?_alloc_mark]
  match j, hj with
  | 0, _ => exact ⟨y0, rfl⟩
  | 1, _ => exact ⟨y1, rfl⟩
  | 2, _ => exact ⟨y2, rfl⟩
  | 3, _ => exact ⟨y3, rfl⟩
  | 4, _ => exact ⟨y4, rfl⟩
  | 5, _ => exact ⟨y5, rfl⟩
  | 6, _ => exact ⟨y6, rfl⟩
  | 7, _ => exact ⟨y7, rfl⟩
  | 8, _ => exact ⟨y8, rfl⟩
  | 9, _ => exact ⟨y9, rfl⟩

end Go.Proofs.Ytdglbakdianjkaa
/- IntsA: Rows of numbers: their copies, their comparison, marks that are laid into one and found again. -/
namespace Go.Proofs.Ytdglbakdianjkaa
open Go.RowKit
attribute [local go_sem ↓] Go.wp_at_zero Go.wp_at_succ

def ics (xs : List Int) : List Value := xs.map fun x => .int .i64 x
theorem ics_len (xs : List Int) : (ics xs).length = xs.length := by simp [ics]
theorem ics_get (xs : List Int) (j : Nat) (h : j < xs.length) : (ics xs)[j]? = some (.int .i64 (xs.getD j 0)) := by simp [ics, List.getD, h]
theorem ics_set (xs : List Int) (j : Nat) (x : Int) : (ics xs).set j (.int .i64 x) = ics (xs.set j x) := by simp [ics, List.map_set]
theorem crow_int {w : World} {a : Option Addr} {xs : List Int} (h : CRow w a (ics xs)) (hp : 0 < xs.length) : ∃ b off, a = some ⟨b, off, none⟩ ∧ b < w.heap.size ∧ ∀ j, j < xs.length → w.cell? ⟨b, off + j, none⟩ = some (.int .i64 (xs.getD j 0)) := by
  obtain ⟨b, off, e, hb, hc⟩ := h (by rw [ics_len]; exact hp)
  exact ⟨b, off, e, hb, fun j hj => hc j _ (ics_get xs j hj)⟩
theorem infoIntG : (Try.prog.info? 3).map (fun i => (i.zero, i.size, i.bytes)) = some (some (.int .i64 0), 1, 8) := by kernel_rfl
def ToInts (xs : List Int) (w : World) (e : Ending) (w' : World) : Prop := ∃ g, e = .returned (.slice (some ⟨g, 0, none⟩) xs.length xs.length) ∧ w.heap.size ≤ g ∧ WCells w' g (ics xs) ∧ Below w.heap.size w w'
/-- Marks from k on. -/
def marksI (k n : Nat) : List Int := (List.range n).map fun j => ((k + j : Nat) : Int)
theorem marksI_len (k n : Nat) : (marksI k n).length = n := by simp [marksI]
theorem marksI_at (k n j : Nat) (h : j < n) : (marksI k n).getD j 0 = ((k + j : Nat) : Int) := by simp [marksI, List.getD, h]
def MarkInts (g k n : Nat) (w : World) (e : Ending) (w' : World) : Prop := e = .returned (.int .i64 (k + n : Nat)) ∧ (∃ ys : List Int, ys.length = n ∧ WCells w' g (ics ys)) ∧ w.grownBy w' (some g)
theorem gb_set' (w : World) (g i : Nat) (v : Value) : w.grownBy (w.setCell ⟨g, i, none⟩ v) (some g) :=
  ⟨rfl, rfl, rfl, by simp [World.setCell], fun k _ hk => Below.heap_setCell w ⟨g, i, none⟩ v k (fun e => hk (by rw [e]))⟩
theorem gb_two' {a b c : World} {g : Nat} (h : a.grownBy b (some g)) (k : b.grownBy c (some g)) : a.grownBy c (some g) :=
  ⟨k.os.trans h.os, k.tape.trans h.tape, k.output.trans h.output, Nat.le_trans h.size k.size, fun j hj hn => (k.block j (Nat.lt_of_lt_of_le hj h.size) hn).trans (h.block j hj hn)⟩
end Go.Proofs.Ytdglbakdianjkaa
/- NestA: Rows of rows of numbers in memory: one that is read, one that may be written, and what is turned of the world in between. Nothing of the program is read here. -/
namespace Go.Proofs.Ytdglbakdianjkaa
open Go.RowKit

/-- What lies from lo up to hi may be turned, what lies beyond the end is new; all else is as it was. -/
structure Turned (w w' : World) (lo hi : Nat) : Prop where
  base : Below 0 w w'
  block : ∀ k, k < w.heap.size → (k < lo ∨ hi ≤ k) → w'.heap[k]? = w.heap[k]?
theorem Turned.refl (w : World) (lo hi : Nat) : Turned w w lo hi := ⟨Below.refl _ _, fun _ _ _ => rfl⟩
theorem Turned.trans {a b c : World} {lo hi : Nat} (h : Turned a b lo hi) (k : Turned b c lo hi) : Turned a c lo hi :=
  ⟨h.base.trans k.base, fun i hi' ho => (k.block i (Nat.lt_of_lt_of_le hi' h.base.size) ho).trans (h.block i hi' ho)⟩
theorem Turned.of_below {w w' : World} (h : Below w.heap.size w w') (lo hi : Nat) : Turned w w' lo hi := ⟨h.mono (Nat.zero_le _), fun k hk _ => h.block k hk⟩
theorem Turned.of_grown {w w' : World} {g lo hi : Nat} (h : w.grownBy w' (some g)) (h1 : lo ≤ g) (h2 : g < hi) : Turned w w' lo hi :=
  ⟨⟨h.os, h.tape, h.output, h.size, fun k hk => by omega⟩, fun k hk ho => h.block k hk (by intro e; cases e; omega)⟩
theorem Turned.wide {w w' : World} {lo hi lo' hi' : Nat} (h : Turned w w' lo hi) (h1 : lo' ≤ lo) (h2 : hi ≤ hi') : Turned w w' lo' hi' := ⟨h.base, fun k hk ho => h.block k hk (by omega)⟩
theorem Turned.below {w w' : World} {lo hi B : Nat} (h : Turned w w' lo hi) (h1 : B ≤ lo) (h2 : B ≤ w.heap.size) : Below B w w' :=
  ⟨h.base.os, h.base.tape, h.base.output, h.base.size, fun k hk => h.block k (by omega) (.inl (by omega))⟩
theorem Turned.size {w w' : World} {lo hi : Nat} (h : Turned w w' lo hi) : w.heap.size ≤ w'.heap.size := h.base.size

/-- A row of cells that is read, its block in a range. -/
def RRow (w : World) (a : Option Addr) (L : List Value) (lo hi : Nat) : Prop :=
  0 < L.length → ∃ b off, a = some ⟨b, off, none⟩ ∧ lo ≤ b ∧ b < hi ∧ b < w.heap.size ∧ ∀ i v, L[i]? = some v → w.cell? ⟨b, off + i, none⟩ = some v
theorem RRow.crow {w : World} {a : Option Addr} {L : List Value} {lo hi : Nat} (h : RRow w a L lo hi) : CRow w a L := fun hp => by
  obtain ⟨b, off, e, _, _, h3, h4⟩ := h hp
  exact ⟨b, off, e, h3, h4⟩
theorem RRow.of_crow {w : World} {a : Option Addr} {L : List Value} (h : CRow w a L) : RRow w a L 0 w.heap.size := fun hp => by
  obtain ⟨b, off, e, h3, h4⟩ := h hp
  exact ⟨b, off, e, Nat.zero_le _, h3, h3, h4⟩
theorem RRow.turned {w w' : World} {a : Option Addr} {L : List Value} {lo hi lo' hi' : Nat} (h : RRow w a L lo hi) (t : Turned w w' lo' hi') (hd : hi ≤ lo' ∨ hi' ≤ lo) : RRow w' a L lo hi := fun hp => by
  obtain ⟨b, off, e, h1, h2, h3, h4⟩ := h hp
  exact ⟨b, off, e, h1, h2, Nat.lt_of_lt_of_le h3 t.size, fun i v hv => (World.cell?_of_block (a := ⟨b, off + i, none⟩) (t.block b h3 (by omega))).trans (h4 i v hv)⟩
theorem RRow.below {w w' : World} {a : Option Addr} {L : List Value} {lo hi : Nat} (h : RRow w a L lo hi) (hb : Below w.heap.size w w') : RRow w' a L lo hi := fun hp => by
  obtain ⟨b, off, e, h1, h2, h3, h4⟩ := h hp
  exact ⟨b, off, e, h1, h2, Nat.lt_of_lt_of_le h3 hb.size, fun i v hv => (hb.cell (p := ⟨b, off + i, none⟩) h3).trans (h4 i v hv)⟩
theorem RRow.wide {w : World} {a : Option Addr} {L : List Value} {lo hi lo' hi' : Nat} (h : RRow w a L lo hi) (h1 : lo' ≤ lo) (h2 : hi ≤ hi') : RRow w a L lo' hi' := fun hp => by
  obtain ⟨b, off, e, q1, q2, q3, q4⟩ := h hp
  exact ⟨b, off, e, by omega, by omega, q3, q4⟩
theorem RRow.of_wcells {w : World} {g lo hi : Nat} {L : List Value} (h : WCells w g L) (h1 : lo ≤ g) (h2 : g < hi) : RRow w (some ⟨g, 0, none⟩) L lo hi := fun _ => ⟨g, 0, rfl, h1, h2, h.1, fun i v hv => by rw [Nat.zero_add]; exact (h.2 i v hv).1⟩
theorem WCells.turned {w w' : World} {g lo hi : Nat} {L : List Value} (h : WCells w g L) (t : Turned w w' lo hi) (hd : g < lo ∨ hi ≤ g) : WCells w' g L :=
  ⟨Nat.lt_of_lt_of_le h.1 t.size, fun i v hv => ⟨(World.cell?_of_block (a := ⟨g, i, none⟩) (t.block g h.1 hd)).trans (h.2 i v hv).1, (World.frozen?_of_block (a := ⟨g, i, none⟩) (t.block g h.1 hd)).trans (h.2 i v hv).2⟩⟩
theorem WCells.apart {w w' : World} {g q : Nat} {L : List Value} (h : WCells w g L) (t : w.grownBy w' (some q)) (hd : g ≠ q) : WCells w' g L :=
  h.turned (Turned.of_grown (lo := q) (hi := q + 1) t (Nat.le_refl _) (by omega)) (by omega)

/-- A row of numbers that stands in a row of rows. -/
structure SR where
  loc : Option Addr
  row : List Int
  cap : Nat
instance : Inhabited SR := ⟨⟨none, [], 0⟩⟩
def srv (s : SR) : Value := .slice s.loc s.row.length s.cap
def svs (ss : List SR) : List Value := ss.map srv
def rws (ss : List SR) : List (List Int) := ss.map (·.row)
theorem svs_len (ss : List SR) : (svs ss).length = ss.length := by simp [svs]
theorem rws_len (ss : List SR) : (rws ss).length = ss.length := by simp [rws]
theorem svs_get (ss : List SR) (i : Nat) (h : i < ss.length) : (svs ss)[i]? = some (srv ss[i]) := by simp [svs, h]
theorem rws_get (ss : List SR) (i : Nat) (h : i < ss.length) : (rws ss)[i]'(by rw [rws_len]; exact h) = ss[i].row := by simp [rws]
theorem rws_snoc (ss : List SR) (s : SR) : rws (ss ++ [s]) = rws ss ++ [s.row] := by simp [rws]
/-- A row of rows that is read, its blocks in a range. -/
def MR (w : World) (a : Option Addr) (ss : List SR) (lo hi : Nat) : Prop := RRow w a (svs ss) lo hi ∧ ∀ s ∈ ss, RRow w s.loc (ics s.row) lo hi
theorem MR.turned {w w' : World} {a : Option Addr} {ss : List SR} {lo hi lo' hi' : Nat} (h : MR w a ss lo hi) (t : Turned w w' lo' hi') (hd : hi ≤ lo' ∨ hi' ≤ lo) : MR w' a ss lo hi := ⟨h.1.turned t hd, fun s hs => (h.2 s hs).turned t hd⟩
theorem MR.below {w w' : World} {a : Option Addr} {ss : List SR} {lo hi : Nat} (h : MR w a ss lo hi) (hb : Below w.heap.size w w') : MR w' a ss lo hi := ⟨h.1.below hb, fun s hs => (h.2 s hs).below hb⟩
theorem MR.wide {w : World} {a : Option Addr} {ss : List SR} {lo hi lo' hi' : Nat} (h : MR w a ss lo hi) (h1 : lo' ≤ lo) (h2 : hi ≤ hi') : MR w a ss lo' hi' := ⟨h.1.wide h1 h2, fun s hs => (h.2 s hs).wide h1 h2⟩
theorem MR.nil (w : World) (a : Option Addr) (lo hi : Nat) : MR w a [] lo hi := ⟨fun h => by simp [svs] at h, by simp⟩
/-- What the walk wants of it: the outer row's place and cells. -/
theorem MR.at {w : World} {a : Option Addr} {ss : List SR} {lo hi : Nat} (h : MR w a ss lo hi) (hp : 0 < ss.length) : ∃ b off, a = some ⟨b, off, none⟩ ∧ b < w.heap.size ∧ ∀ i (hi : i < ss.length), w.cell? ⟨b, off + i, none⟩ = some (srv ss[i]) := by
  obtain ⟨b, off, e, _, _, h3, h4⟩ := h.1 (by rw [svs_len]; exact hp)
  exact ⟨b, off, e, h3, fun i hi => h4 i _ (svs_get ss i hi)⟩
/-- A row of rows that may be written: each row in a block of its own, all in a range. -/
structure MW (w : World) (g : Nat) (ss : List SR) (lo hi : Nat) : Prop where
  out : WCells w g (svs ss)
  glo : lo ≤ g
  ghi : g < hi
  rows : ∀ s ∈ ss, ∃ b, s.loc = some ⟨b, 0, none⟩ ∧ lo ≤ b ∧ b < hi ∧ b ≠ g ∧ WCells w b (ics s.row) ∧ s.row.length ≤ s.cap
  apart : (ss.map SR.loc).Nodup
theorem MW.mr {w : World} {g : Nat} {ss : List SR} {lo hi : Nat} (h : MW w g ss lo hi) : MR w (some ⟨g, 0, none⟩) ss lo hi :=
  ⟨RRow.of_wcells h.out h.glo h.ghi, fun s hs => by obtain ⟨b, e, h1, h2, _, h3, _⟩ := h.rows s hs; rw [e]; exact RRow.of_wcells h3 h1 h2⟩
theorem MW.turned {w w' : World} {g : Nat} {ss : List SR} {lo hi lo' hi' : Nat} (h : MW w g ss lo hi) (t : Turned w w' lo' hi') (hd : hi ≤ lo' ∨ hi' ≤ lo) : MW w' g ss lo hi :=
  ⟨h.out.turned t (by have := h.glo; have := h.ghi; omega), h.glo, h.ghi, fun s hs => by
    obtain ⟨b, e, h1, h2, h3, h4, h5⟩ := h.rows s hs
    exact ⟨b, e, h1, h2, h3, h4.turned t (by omega), h5⟩, h.apart⟩
theorem MW.below {w w' : World} {g : Nat} {ss : List SR} {lo hi : Nat} (h : MW w g ss lo hi) (hb : Below w.heap.size w w') : MW w' g ss lo hi :=
  ⟨h.out.below hb h.out.1, h.glo, h.ghi, fun s hs => by
    obtain ⟨b, e, h1, h2, h3, h4, h5⟩ := h.rows s hs
    exact ⟨b, e, h1, h2, h3, h4.below hb h4.1, h5⟩, h.apart⟩
theorem MW.wide {w : World} {g : Nat} {ss : List SR} {lo hi lo' hi' : Nat} (h : MW w g ss lo hi) (h1 : lo' ≤ lo) (h2 : hi ≤ hi') : MW w g ss lo' hi' :=
  ⟨h.out, Nat.le_trans h1 h.glo, Nat.lt_of_lt_of_le h.ghi h2, fun s hs => by
    obtain ⟨b, e, q1, q2, q3, q4, q5⟩ := h.rows s hs
    exact ⟨b, e, by omega, by omega, q3, q4, q5⟩, h.apart⟩
/-- An answer of rows of numbers: nothing, or a row of rows that may be written. -/
def MAns (w : World) (v : Value) (X : List (List Int)) (lo hi : Nat) : Prop :=
  ∃ (a : Option Addr) (cap : Nat) (ss : List SR), v = .slice a ss.length cap ∧ rws ss = X ∧ ss.length ≤ cap ∧ (ss = [] ∨ ∃ g, a = some ⟨g, 0, none⟩ ∧ MW w g ss lo hi)
theorem MAns.empty (w : World) (a : Option Addr) (cap lo hi : Nat) : MAns w (.slice a 0 cap) [] lo hi := ⟨a, cap, [], rfl, rfl, Nat.zero_le _, .inl rfl⟩
end Go.Proofs.Ytdglbakdianjkaa
/- GenA: Rows of elements of which each one holds a row of its own, in memory: one that is read, one that may be written. Nothing of the program is read here. -/
namespace Go.Proofs.Ytdglbakdianjkaa
open Go.RowKit

/-- A kind of such elements: how one is laid into cells, where its own row lies, and what that row holds. -/
structure NK (R : Type) where
  enc : R → List Value
  sz : Nat
  len : ∀ r, (enc r).length = sz
  loc : R → Option Addr
  inn : R → List Value
def NK.cells {R : Type} (K : NK R) (rs : List R) : List Value := rs.flatMap K.enc
theorem NK.cells_len {R : Type} (K : NK R) (rs : List R) : (K.cells rs).length = rs.length * K.sz := flat_len K.len rs
theorem NK.cells_get {R : Type} (K : NK R) (rs : List R) (j : Nat) (h : j < rs.length) (i : Nat) (hi : i < K.sz) : (K.cells rs)[j * K.sz + i]? = (K.enc rs[j])[i]? := flat_get K.len rs j h i hi
/-- Such a row, as it is read. -/
def GR {R : Type} (K : NK R) (w : World) (a : Option Addr) (rs : List R) (lo hi : Nat) : Prop := RRow w a (K.cells rs) lo hi ∧ ∀ r ∈ rs, RRow w (K.loc r) (K.inn r) lo hi
theorem GR.turned {R : Type} {K : NK R} {w w' : World} {a : Option Addr} {rs : List R} {lo hi lo' hi' : Nat} (h : GR K w a rs lo hi) (t : Turned w w' lo' hi') (hd : hi ≤ lo' ∨ hi' ≤ lo) : GR K w' a rs lo hi := ⟨h.1.turned t hd, fun r hr => (h.2 r hr).turned t hd⟩
theorem GR.below {R : Type} {K : NK R} {w w' : World} {a : Option Addr} {rs : List R} {lo hi : Nat} (h : GR K w a rs lo hi) (hb : Below w.heap.size w w') : GR K w' a rs lo hi := ⟨h.1.below hb, fun r hr => (h.2 r hr).below hb⟩
theorem GR.wide {R : Type} {K : NK R} {w : World} {a : Option Addr} {rs : List R} {lo hi lo' hi' : Nat} (h : GR K w a rs lo hi) (h1 : lo' ≤ lo) (h2 : hi ≤ hi') : GR K w a rs lo' hi' := ⟨h.1.wide h1 h2, fun r hr => (h.2 r hr).wide h1 h2⟩
theorem GR.nil {R : Type} (K : NK R) (w : World) (a : Option Addr) (lo hi : Nat) : GR K w a [] lo hi := ⟨fun h => by simp [NK.cells] at h, by simp⟩
/-- Where it lies, and its cells. -/
theorem GR.at {R : Type} {K : NK R} {w : World} {a : Option Addr} {rs : List R} {lo hi : Nat} (h : GR K w a rs lo hi) (hp : 0 < rs.length) (hz : 0 < K.sz) :
    ∃ b off, a = some ⟨b, off, none⟩ ∧ b < w.heap.size ∧ ∀ j (hj : j < rs.length) i v, (K.enc rs[j])[i]? = some v → w.cell? ⟨b, off + (j * K.sz + i), none⟩ = some v := by
  obtain ⟨b, off, e, _, _, h3, h4⟩ := h.1 (by rw [K.cells_len]; exact Nat.mul_pos hp hz)
  refine ⟨b, off, e, h3, fun j hj i v hv => h4 _ v ?_⟩
  have hi : i < K.sz := by have := (List.getElem?_eq_some_iff.1 hv).1; rw [K.len] at this; exact this
  rw [K.cells_get rs j hj i hi]; exact hv
/-- Such a row that may be written: each one's own row in a block of its own, all in a range. -/
structure GW {R : Type} (K : NK R) (w : World) (g : Nat) (rs : List R) (lo hi : Nat) : Prop where
  out : WCells w g (K.cells rs)
  glo : lo ≤ g
  ghi : g < hi
  rows : ∀ r ∈ rs, K.inn r = [] ∨ ∃ b, K.loc r = some ⟨b, 0, none⟩ ∧ lo ≤ b ∧ b < hi ∧ b ≠ g ∧ WCells w b (K.inn r)
  apart : rs.Pairwise fun r s => K.inn r ≠ [] → K.inn s ≠ [] → K.loc r ≠ K.loc s
theorem GW.gr {R : Type} {K : NK R} {w : World} {g : Nat} {rs : List R} {lo hi : Nat} (h : GW K w g rs lo hi) : GR K w (some ⟨g, 0, none⟩) rs lo hi :=
  ⟨RRow.of_wcells h.out h.glo h.ghi, fun r hr => by
    rcases h.rows r hr with e | ⟨b, e, h1, h2, _, h3⟩
    · rw [e]; intro hp; simp at hp
    · rw [e]; exact RRow.of_wcells h3 h1 h2⟩
theorem GW.turned {R : Type} {K : NK R} {w w' : World} {g : Nat} {rs : List R} {lo hi lo' hi' : Nat} (h : GW K w g rs lo hi) (t : Turned w w' lo' hi') (hd : hi ≤ lo' ∨ hi' ≤ lo) : GW K w' g rs lo hi :=
  ⟨h.out.turned t (by have := h.glo; have := h.ghi; omega), h.glo, h.ghi, fun r hr => by
    rcases h.rows r hr with e | ⟨b, e, h1, h2, h3, h4⟩
    · exact .inl e
    · exact .inr ⟨b, e, h1, h2, h3, h4.turned t (by omega)⟩, h.apart⟩
theorem GW.below {R : Type} {K : NK R} {w w' : World} {g : Nat} {rs : List R} {lo hi : Nat} (h : GW K w g rs lo hi) (hb : Below w.heap.size w w') : GW K w' g rs lo hi :=
  ⟨h.out.below hb h.out.1, h.glo, h.ghi, fun r hr => by
    rcases h.rows r hr with e | ⟨b, e, h1, h2, h3, h4⟩
    · exact .inl e
    · exact .inr ⟨b, e, h1, h2, h3, h4.below hb h4.1⟩, h.apart⟩
theorem GW.wide {R : Type} {K : NK R} {w : World} {g : Nat} {rs : List R} {lo hi lo' hi' : Nat} (h : GW K w g rs lo hi) (h1 : lo' ≤ lo) (h2 : hi ≤ hi') : GW K w g rs lo' hi' :=
  ⟨h.out, Nat.le_trans h1 h.glo, Nat.lt_of_lt_of_le h.ghi h2, fun r hr => by
    rcases h.rows r hr with e | ⟨b, e, q1, q2, q3, q4⟩
    · exact .inl e
    · exact .inr ⟨b, e, by omega, by omega, q3, q4⟩, h.apart⟩
theorem WCells.setW_other {w : World} {g b : Nat} {L : List Value} (h : WCells w b L) (hne : b ≠ g) (off : Nat) (vs : List Value) : WCells (Go.Proofs.Ytdglbakdianjkaa.setW w g off vs) b L := by
  induction vs generalizing w off with
  | nil => exact h
  | cons v vs ih => exact ih (h.other ⟨g, off, none⟩ v hne) _
/-- An element is laid anew. -/
theorem GW.put {R : Type} {K : NK R} {w : World} {g : Nat} {rs : List R} {lo hi : Nat} (h : GW K w g rs lo hi) (j : Nat) (hj : j < rs.length) (r : R) (hr : K.inn r = [] ∨ ∃ b, K.loc r = some ⟨b, 0, none⟩ ∧ lo ≤ b ∧ b < hi ∧ b ≠ g ∧ WCells w b (K.inn r))
    (hap : ∀ s ∈ rs, K.inn s ≠ [] → K.inn r ≠ [] → K.loc s ≠ K.loc r) : GW K (Go.Proofs.Ytdglbakdianjkaa.setW w g (j * K.sz) (K.enc r)) g (rs.set j r) lo hi := by
  refine ⟨h.out.setElem K.len j hj r, h.glo, h.ghi, fun s hs => ?_, ?_⟩
  · rcases List.mem_or_eq_of_mem_set hs with q | q
    · rcases h.rows s q with e | ⟨b, e, q1, q2, q3, q4⟩
      · exact .inl e
      · exact .inr ⟨b, e, q1, q2, q3, q4.setW_other q3 _ _⟩
    · subst q
      rcases hr with e | ⟨b, e, q1, q2, q3, q4⟩
      · exact .inl e
      · exact .inr ⟨b, e, q1, q2, q3, q4.setW_other q3 _ _⟩
  · have ha := List.pairwise_iff_getElem.1 h.apart
    refine List.pairwise_iff_getElem.2 (fun a b ha' hb' hab h1 h2 => ?_)
    rw [List.length_set] at ha' hb'
    rw [List.getElem_set] at h1 ⊢
    rw [List.getElem_set] at h2 ⊢
    by_cases ea : j = a
    · by_cases eb : j = b
      · omega
      · rw [if_pos ea] at h1 ⊢
        rw [if_neg eb] at h2 ⊢
        exact (hap _ (List.getElem_mem hb') h2 h1).symm
    · rw [if_neg ea] at h1 ⊢
      by_cases eb : j = b
      · rw [if_pos eb] at h2 ⊢
        exact hap _ (List.getElem_mem ha') h1 h2
      · rw [if_neg eb] at h2 ⊢
        exact ha a b ha' hb' hab h1 h2
/-- A fact on a world, in place of how it came to be. -/
theorem body_shade {P : Program} {f : Func} {R : Ending → World → Prop} {x : Exit} {a : Act} {W : World} (p : World → Prop) (h : p W) (k : ∀ W', p W' → bodyPost P f R x a W') : bodyPost P f R x a W := k W h
theorem wp_shade {P : Program} {c : Code} {Q : Exit → Act → World → Prop} {a : Act} {W : World} (p : World → Prop) (h : p W) (k : ∀ W', p W' → Code.wp P c Q a W') : Code.wp P c Q a W := k W h
end Go.Proofs.Ytdglbakdianjkaa
/- TreA: Trees, plain, and in memory. -/
namespace Go.Proofs.Ytdglbakdianjkaa
open Go.RowKit

/-- A piece. -/
structure PM where
  group : Int
  len : Int
instance : Inhabited PM := ⟨⟨0, 0⟩⟩
abbrev pv (p : PM) : Value := .agg #[.int .i64 p.group, .int .i64 p.len]
def pcells (p : PM) : List Value := [.int .i64 p.group, .int .i64 p.len]
theorem pcells_len (p : PM) : (pcells p).length = 2 := rfl
def pcs (ps : List PM) : List Value := ps.flatMap pcells
theorem pcs_len (ps : List PM) : (pcs ps).length = ps.length * 2 := flat_len pcells_len ps
theorem pcs_nil {ps : List PM} : pcs ps = [] ↔ ps = [] := by
  cases ps with
  | nil => simp [pcs]
  | cons p ps => simp [pcs, pcells]
/-- A node. -/
structure NM where
  id : Int
  parent : Int
  name : ByteArray
  dir : Bool
  schema : Int
  quota : Int
  len : Int
  pieces : List PM
  writer : Int
instance : Inhabited NM := ⟨⟨0, 0, ⟨#[]⟩, false, 0, 0, 0, [], 0⟩⟩
/-- A node in memory: what it is, and where its pieces lie. -/
structure NR where
  nd : NM
  loc : Option Addr
  cap : Nat
instance : Inhabited NR := ⟨⟨default, none, 0⟩⟩
abbrev nv (r : NR) : Value := .agg #[.int .i64 r.nd.id, .int .i64 r.nd.parent, .string r.nd.name, .bool r.nd.dir, .int .i64 r.nd.schema, .int .i64 r.nd.quota, .int .i64 r.nd.len, .slice r.loc r.nd.pieces.length r.cap, .int .i64 r.nd.writer]
def ncells (r : NR) : List Value := [.int .i64 r.nd.id, .int .i64 r.nd.parent, .string r.nd.name, .bool r.nd.dir, .int .i64 r.nd.schema, .int .i64 r.nd.quota, .int .i64 r.nd.len, .slice r.loc r.nd.pieces.length r.cap, .int .i64 r.nd.writer]
theorem ncells_len (r : NR) : (ncells r).length = 9 := rfl
/-- Nodes as elements that hold a row each. -/
abbrev NKind : NK NR := ⟨ncells, 9, ncells_len, NR.loc, fun r => pcs r.nd.pieces⟩
def ncs (rs : List NR) : List Value := rs.flatMap ncells
theorem ncs_len (rs : List NR) : (ncs rs).length = rs.length * 9 := flat_len ncells_len rs
def nds (rs : List NR) : List NM := rs.map NR.nd
theorem nds_len (rs : List NR) : (nds rs).length = rs.length := by simp [nds]
theorem nds_snoc (rs : List NR) (r : NR) : nds (rs ++ [r]) = nds rs ++ [r.nd] := by simp [nds]
/-- A tree. -/
structure TM where
  nodes : List NM
  next : Int
/-- Nine cells of a node. -/
def NAt (w : World) (b o : Nat) (r : NR) : Prop :=
  w.cell? ⟨b, o, none⟩ = some (.int .i64 r.nd.id) ∧ w.cell? ⟨b, o + 1, none⟩ = some (.int .i64 r.nd.parent) ∧ w.cell? ⟨b, o + 2, none⟩ = some (.string r.nd.name) ∧ w.cell? ⟨b, o + 3, none⟩ = some (.bool r.nd.dir) ∧ w.cell? ⟨b, o + 4, none⟩ = some (.int .i64 r.nd.schema) ∧ w.cell? ⟨b, o + 5, none⟩ = some (.int .i64 r.nd.quota) ∧ w.cell? ⟨b, o + 6, none⟩ = some (.int .i64 r.nd.len) ∧ w.cell? ⟨b, o + 7, none⟩ = some (.slice r.loc r.nd.pieces.length r.cap) ∧ w.cell? ⟨b, o + 8, none⟩ = some (.int .i64 r.nd.writer)
abbrev TR (w : World) (a : Option Addr) (rs : List NR) (lo hi : Nat) : Prop := GR NKind w a rs lo hi
abbrev TW (w : World) (g : Nat) (rs : List NR) (lo hi : Nat) : Prop := GW NKind w g rs lo hi
theorem TR.nat {w : World} {a : Option Addr} {rs : List NR} {lo hi : Nat} (h : TR w a rs lo hi) (hp : 0 < rs.length) : ∃ b off, a = some ⟨b, off, none⟩ ∧ b < w.heap.size ∧ ∀ j (hj : j < rs.length), NAt w b (off + j * 9) rs[j] := by
  obtain ⟨b, off, e, hb, hc⟩ := h.at hp (by decide)
  refine ⟨b, off, e, hb, fun j hj => ?_⟩
  have hcc : ∀ i v, (ncells rs[j])[i]? = some v → w.cell? ⟨b, off + j * 9 + i, none⟩ = some v := fun i v hv => by
    have := hc j hj i v hv
    rw [← Nat.add_assoc] at this
    exact this
  exact ⟨hcc 0 _ rfl, hcc 1 _ rfl, hcc 2 _ rfl, hcc 3 _ rfl, hcc 4 _ rfl, hcc 5 _ rfl, hcc 6 _ rfl, hcc 7 _ rfl, hcc 8 _ rfl⟩
theorem NAt.below {w w' : World} {b o : Nat} {r : NR} (h : NAt w b o r) (hb : Below w.heap.size w w') (hl : b < w.heap.size) : NAt w' b o r := by
  obtain ⟨h0, h1, h2, h3, h4, h5, h6, h7, h8⟩ := h
  have k : ∀ i v, w.cell? ⟨b, i, none⟩ = some v → w'.cell? ⟨b, i, none⟩ = some v := fun i v hv => (hb.cell (p := ⟨b, i, none⟩) hl).trans hv
  exact ⟨k _ _ h0, k _ _ h1, k _ _ h2, k _ _ h3, k _ _ h4, k _ _ h5, k _ _ h6, k _ _ h7, k _ _ h8⟩
/-- Pieces that are read. -/
theorem pcs_at {w : World} {a : Option Addr} {ps : List PM} {lo hi : Nat} (h : RRow w a (pcs ps) lo hi) (hp : 0 < ps.length) : ∃ b off, a = some ⟨b, off, none⟩ ∧ b < w.heap.size ∧ ∀ j (hj : j < ps.length), w.cell? ⟨b, off + j * 2, none⟩ = some (.int .i64 ps[j].group) ∧ w.cell? ⟨b, off + j * 2 + 1, none⟩ = some (.int .i64 ps[j].len) := by
  obtain ⟨b, off, e, _, _, hb, hc⟩ := h (by rw [pcs_len]; omega)
  exact ⟨b, off, e, hb, fun j hj => ⟨hc (j * 2) _ (flat_get pcells_len ps j hj 0 (by omega)), hc (j * 2 + 1) _ (flat_get pcells_len ps j hj 1 (by omega))⟩⟩
/-- A value that is this tree. -/
def TSee (w : World) (v : Value) (T : TM) (lo hi : Nat) : Prop := ∃ (a : Option Addr) (cap : Nat) (rs : List NR), v = .agg #[.slice a rs.length cap, .int .i64 T.next] ∧ nds rs = T.nodes ∧ TR w a rs lo hi
/-- An answer that is this tree: nothing, or nodes that may be written. -/
def TAns (w : World) (v : Value) (T : TM) (lo hi : Nat) : Prop := ∃ (a : Option Addr) (cap : Nat) (rs : List NR), v = .agg #[.slice a rs.length cap, .int .i64 T.next] ∧ nds rs = T.nodes ∧ rs.length ≤ cap ∧ (rs = [] ∨ ∃ g, a = some ⟨g, 0, none⟩ ∧ TW w g rs lo hi)
theorem TAns.see {w : World} {v : Value} {T : TM} {lo hi : Nat} (h : TAns w v T lo hi) : TSee w v T lo hi := by
  obtain ⟨a, cap, rs, e, hr, _, h1⟩ := h
  refine ⟨a, cap, rs, e, hr, ?_⟩
  rcases h1 with rfl | ⟨g, rfl, hm⟩
  · exact GR.nil _ _ _ _ _
  · exact hm.gr
theorem TSee.turned {w w' : World} {v : Value} {T : TM} {lo hi lo' hi' : Nat} (h : TSee w v T lo hi) (t : Turned w w' lo' hi') (hd : hi ≤ lo' ∨ hi' ≤ lo) : TSee w' v T lo hi := by
  obtain ⟨a, cap, rs, e, hr, h1⟩ := h
  exact ⟨a, cap, rs, e, hr, h1.turned t hd⟩
theorem TSee.below {w w' : World} {v : Value} {T : TM} {lo hi : Nat} (h : TSee w v T lo hi) (hb : Below w.heap.size w w') : TSee w' v T lo hi := by
  obtain ⟨a, cap, rs, e, hr, h1⟩ := h
  exact ⟨a, cap, rs, e, hr, h1.below hb⟩
theorem TSee.wide {w : World} {v : Value} {T : TM} {lo hi lo' hi' : Nat} (h : TSee w v T lo hi) (h1 : lo' ≤ lo) (h2 : hi ≤ hi') : TSee w v T lo' hi' := by
  obtain ⟨a, cap, rs, e, hr, q⟩ := h
  exact ⟨a, cap, rs, e, hr, q.wide h1 h2⟩
theorem TAns.turned {w w' : World} {v : Value} {T : TM} {lo hi lo' hi' : Nat} (h : TAns w v T lo hi) (t : Turned w w' lo' hi') (hd : hi ≤ lo' ∨ hi' ≤ lo) : TAns w' v T lo hi := by
  obtain ⟨a, cap, rs, e, hr, hc, h1⟩ := h
  refine ⟨a, cap, rs, e, hr, hc, ?_⟩
  rcases h1 with rfl | ⟨g, rfl, hm⟩
  · exact .inl rfl
  · exact .inr ⟨g, rfl, hm.turned t hd⟩
theorem TAns.below {w w' : World} {v : Value} {T : TM} {lo hi : Nat} (h : TAns w v T lo hi) (hb : Below w.heap.size w w') : TAns w' v T lo hi := by
  obtain ⟨a, cap, rs, e, hr, hc, h1⟩ := h
  refine ⟨a, cap, rs, e, hr, hc, ?_⟩
  rcases h1 with rfl | ⟨g, rfl, hm⟩
  · exact .inl rfl
  · exact .inr ⟨g, rfl, hm.below hb⟩
/-- What an answer of a tree is: new memory alone. -/
def TrPost (T : TM) (w : World) (e : Ending) (w' : World) : Prop := ∃ v, e = .returned v ∧ TAns w' v T w.heap.size w'.heap.size ∧ Below w.heap.size w w'
/-- How much there is in nodes: their names' bytes and their pieces. -/
def nsum : List NM → Nat
  | [] => 0
  | n :: ns => n.name.size + n.pieces.length + nsum ns
theorem nsum_take (ns : List NM) (k : Nat) (h : k < ns.length) : nsum (ns.take (k + 1)) = nsum (ns.take k) + (ns[k].name.size + ns[k].pieces.length) := by
  induction ns generalizing k with
  | nil => simp at h
  | cons n ns ih =>
    cases k with
    | zero => simp [nsum]
    | succ k =>
      have := ih k (by simpa using h)
      simp only [List.take_succ_cons, nsum, List.getElem_cons_succ]
      omega
theorem nsum_mem {ns : List NM} {n : NM} (h : n ∈ ns) : n.name.size + n.pieces.length ≤ nsum ns := by
  induction ns with
  | nil => simp at h
  | cons x ns ih =>
    rcases List.mem_cons.1 h with rfl | h
    · simp only [nsum]; omega
    · have := ih h; simp only [nsum]; omega
/-- A tree that a machine can hold. -/
def NFit (T : TM) : Prop := T.nodes.length + nsum T.nodes ≤ 1048576
end Go.Proofs.Ytdglbakdianjkaa
/- SchZ: The schemas, plain, and the walk of the model's SchemaOf. -/
namespace Go.Proofs.Ytdglbakdianjkaa
open Go.RowKit
attribute [local go_sem ↓] Go.wp_at_zero Go.wp_at_succ

def schK (s : Int) : Nat := if s = 1 then 2 else if s = 2 then 3 else if s = 3 then 4 else 0
def schM (s : Int) : Nat := if s = 1 then 1 else if s = 2 then 2 else if s = 3 then 2 else 0
def schOk (s : Int) : Bool := decide (s = 1) || decide (s = 2) || decide (s = 3)
theorem sch_cases {s : Int} (h : schOk s = true) : s = 1 ∨ s = 2 ∨ s = 3 := by
  unfold schOk at h
  simp only [Bool.or_eq_true, decide_eq_true_eq] at h
  omega
theorem sch_no {s : Int} (h : schOk s = false) : s ≠ 1 ∧ s ≠ 2 ∧ s ≠ 3 := by
  unfold schOk at h
  simp only [Bool.or_eq_false_iff, decide_eq_false_iff_not] at h
  omega
theorem sch_bounds {s : Int} (h : schOk s = true) : 2 ≤ schK s ∧ schK s ≤ 4 ∧ 1 ≤ schM s ∧ schM s ≤ 2 := by
  rcases sch_cases h with rfl | rfl | rfl <;> decide
theorem sch_zero {s : Int} (h : schOk s = false) : schK s = 0 ∧ schM s = 0 := by
  obtain ⟨h1, h2, h3⟩ := sch_no h
  unfold schK schM
  rw [if_neg h1, if_neg h2, if_neg h3, if_neg h1, if_neg h2, if_neg h3]
  exact ⟨rfl, rfl⟩
def SchPost (s : Int) (w : World) (e : Ending) (w' : World) : Prop := e = .returned (.tuple #[.int .i64 (schK s : Nat), .int .i64 (schM s : Nat), .bool (schOk s)]) ∧ w' = w
/-- The same, of the program's own. -/
def SchB (s : Int) (w : World) (e : Ending) (w' : World) : Prop := e = .returned (.tuple #[.int .i64 (schK s : Nat), .int .i64 (schM s : Nat), .bool (schOk s)]) ∧ Below w.heap.size w w'
end Go.Proofs.Ytdglbakdianjkaa
