/- The draws of chapter 1. -/
import Derived.Test.YthhpdkeajogkoaaDoorDrawB
namespace Go.Proofs.YthhpdkeajogkoaaDoor
open Go.RowKit

/-- A row of bytes that may be written. -/
def BRow (w : World) (g : Nat) (l : List UInt8) : Prop :=
  g < w.heap.size ∧ ∀ j, j < l.length → w.cell? ⟨g, j, none⟩ = some (.int .u8 ((l.getD j 0).toNat : Int)) ∧ w.frozen? ⟨g, j, none⟩ = false
theorem BRow.set {w : World} {g : Nat} {l : List UInt8} (h : BRow w g l) (i : Nat) (x : UInt8) (hi : i < l.length) : BRow (w.setCell ⟨g, i, none⟩ (.int .u8 (x.toNat : Int))) g (l.set i x) := by
  refine ⟨by have := h.1; simpa [World.setCell] using this, fun j hj => ?_⟩
  rw [List.length_set] at hj
  refine ⟨?_, (World.frozen?_setCell _ _ _ _).trans (h.2 j hj).2⟩
  by_cases e : j = i
  · subst e
    rw [World.cell?_setCell_same _ _ _ (h.2 j hj).1]
    simp [List.getD, hi]
  · rw [World.cell?_setCell_other _ _ _ _ (by first | (simp; done) | (simp; omega)), (h.2 j hj).1]
    simp [List.getD, Ne.symm e]
theorem own_brow {w : World} {B g n cap : Nat} {l : List UInt8} (h : w.ownsRow B 5 1 (.slice (some ⟨g, 0, none⟩) n cap) n (bv l)) : BRow w g l := by
  have hc := h.cells (g := g) rfl
  have hlt := h.lt g rfl
  obtain ⟨_, ⟨h0, _⟩ | ⟨g', cap', cur, he, hB, hcur, _, _, _, _⟩⟩ := h
  · cases h0
  · have eg : g' = g := by simp at he; exact he.1.symm
    subst eg
    refine ⟨hlt.2, fun j hj => ⟨?_, ?_⟩⟩
    · have := hc j _ (show (bv l)[j]? = some _ by simp [bv, hj]; rfl)
      have e : (⟨g', 0, none⟩ : Addr).add j = ⟨g', j, none⟩ := by cases j <;> simp [Addr.add]
      rw [e] at this
      simpa [List.getD, hj] using this
    · unfold World.frozen?
      rw [hcur]; simp
theorem brow_string {w : World} {g cap : Nat} {l : List UInt8} (h : BRow w g l) :
    (convert 22 9 (.slice (some ⟨g, 0, none⟩) l.length cap)).run Tryd.prog w = .ok (.string ⟨l.toArray⟩) w :=
  run_convert_bytes_back w 22 9 5 ⟨g, 0, none⟩ cap l Tryd.underlying22 Tryd.underlying5 Tryd.underlying9 (fun j hj => by
    have e : (⟨g, 0, none⟩ : Addr).add j = ⟨g, j, none⟩ := by cases j <;> simp [Addr.add]
    rw [e, (h.2 j hj).1]
    simp [List.getD, hj])

set_option maxHeartbeats 1000000 in
theorem l01Long_any (w : World) (n : Nat) (x : UInt8) (hn : n ≤ 1048576) :
    Calls Tryd.prog 21 #[.int .i64 n, .int .u8 (x.toNat : Int)] w fun e w' => ∃ t : ByteArray, e = .returned (.string t) ∧ t.size = n ∧ Below w.heap.size w w' := by
  obtain ⟨i0, hi, hz0, hz1, hz2⟩ := info_parts Tryd.info5
  go_enter Tryd.func21, Tryd.ntmps21
  go_wp2_with (at_make; refine wpList_make_full _ rfl _ _ 22 rfl w.heap.size 5 i0 (.int .u8 0) 1 Tryd.underlying22 hi hz0 hz1 .i64 .i64 _ _ n rfl rfl (by omega) (by omega) ?b2 ?b3 ?b4 ?_)
  case b2 => rw [hz2]; omega
  case b3 => unfold maxLen; omega
  case b4 => omega
  intro wm hownm hgrm
  have hbm : Below w.heap.size w wm := (Below.refl _ _).grown hgrm (Nat.le_refl _) (fun j hj => by simp at hj)
  have hrow : BRow wm w.heap.size (List.replicate n 0) := own_brow (B := w.heap.size) (cap := n) (n := n) (by
    have e : (madeCells #[Value.int IntKind.u8 0] n).toList = bv (List.replicate n 0) := by
      rw [toList_madeCells_one]; simp [bv]
    rw [e] at hownm; exact hownm)
  clear hownm hgrm
  go_wp2_with fail
  go_loopw [6] (fun i wr => ∃ (k : Nat) (l : List UInt8), i = .int .i64 k ∧ k ≤ n ∧ l.length = n ∧ BRow wr w.heap.size l ∧ Below w.heap.size w wr) (fun i _ => n - (intOf i).toNat)
  case atStart => exact ⟨0, _, rfl, by omega, by simp, hrow, hbm⟩
  case round =>
    clear hrow hbm
    obtain ⟨k, l, rfl, hk, hl, hr, hb⟩ := hrel
    have HL : Hid (l.length = n) := hl
    clear hl
    by_cases hlt : k < n
    · have k0 : (0 : Int) ≤ (k : Int) := by omega
      have k1 : (k : Int) < (n : Int) := by omega
      have c1 := (hr.2 k (by have := HL.out; omega)).1
      have c2 := (hr.2 k (by have := HL.out; omega)).2
      have hset := hr.set k x (by have := HL.out; omega)
      have hbn := hb.setCell (p := ⟨w.heap.size, k, none⟩) (Nat.le_refl _) (.int .u8 (x.toNat : Int))
      clear hr hb
      go_wp2_with fail
      go_roundw
      case rel => exact ⟨k + 1, _, by go_num, by omega, by rw [List.length_set]; exact HL.out, hset, hbn⟩
      case measure => simp [intOf]; omega
    · have hcv := brow_string (cap := n) hr
      rw [HL.out] at hcv
      go_wp2_with fail
      go_ret
      exact ⟨⟨l.toArray⟩, rfl, HL.out, hb⟩

theorem long_int (w : World) (x : Int) (c : UInt8) (h0 : 0 ≤ x) (h1 : x ≤ 1048576) :
    Calls Tryd.prog 21 #[.int .i64 x, .int .u8 (c.toNat : Int)] w fun e w' => ∃ t : ByteArray, e = .returned (.string t) ∧ t.size = x.toNat ∧ Below w.heap.size w w' := by
  obtain ⟨n, rfl⟩ := Int.eq_ofNat_of_zero_le h0
  exact l01Long_any w n c (by omega)
def IntPost (w : World) (g B : Nat) (a : Option Addr) (len cap : Nat) (e : Ending) (w' : World) : Prop :=
  ∃ x : Int, e = .returned (.int .i64 x) ∧ Cur w' g B a len cap ∧ w.grownBy w' (some g)
theorem ten_ints (w : World) (t : TypeId) (y0 y1 y2 y3 y4 y5 y6 y7 y8 y9 : Int) (j : Nat) (hj : j < 10) :
    ∃ y : Int, (w.alloc (.cells #[.int .i64 y0, .int .i64 y1, .int .i64 y2, .int .i64 y3, .int .i64 y4, .int .i64 y5, .int .i64 y6, .int .i64 y7, .int .i64 y8, .int .i64 y9] t)).cell? ⟨w.heap.size, j, none⟩ = some (.int .i64 y) := by
  rw [World.cell?_alloc_mark]
  match j, hj with
  | 0, _ => exact ⟨y0, rfl⟩
  | 1, _ => exact ⟨y1, rfl⟩
  | 2, _ => exact ⟨y2, rfl⟩
  | 3, _ => exact ⟨y3, rfl⟩
  | 4, _ => exact ⟨y4, rfl⟩
  | 5, _ => exact ⟨y5, rfl⟩
  | 6, _ => exact ⟨y6, rfl⟩
  | 7, _ => exact ⟨y7, rfl⟩
  | 8, _ => exact ⟨y8, rfl⟩
  | 9, _ => exact ⟨y9, rfl⟩

set_option maxHeartbeats 400000 in
theorem drawHex_any (w : World) (a : Option Addr) (len cap : Nat) (hc : CodeAt w w.heap.size a len) :
    Calls Tryd.prog 8 #[.slice a len cap] w fun e w' => ∃ t : ByteArray, e = .returned (.string t) ∧ t.size ≤ 20001 ∧ Below w.heap.size w w' := by
  have HC : Hid (CodeAt w w.heap.size a len) := hc
  clear hc
  go_enter Tryd.func8, Tryd.ntmps8
  go_wp2_with fail
  refine (l01New_any _ a len cap HC.out).mono ?_
  rintro e w1 ⟨g, rfl, hg, hcur, hb1⟩
  have HC1 : Hid (Cur w1 g w.heap.size a len cap) := hcur
  clear hcur
  go_wp2_with fail
  refine (l01Once_any _ g _ a len cap 60 (by omega) HC1.out).mono ?_
  rintro e w2 ⟨b, rfl, hc2, hg2⟩
  have HC2 : Hid (Cur w2 g w.heap.size a len cap) := hc2
  have hb2 : Below w.heap.size w w2 := hb1.trans (below_gb hg2 hg hb1.size)
  clear hc2 hg2
  cases b
  · go_wp2_with fail
    refine (l01Below_any _ g _ a len cap 30 (by omega) HC2.out).mono ?_
    rintro e w3 ⟨x, rfl, x0, x1, hc3, hg3⟩
    have HC3 : Hid (Cur w3 g w.heap.size a len cap) := hc3
    have hb3 : Below w.heap.size w w3 := hb2.trans (below_gb hg3 hg hb2.size)
    obtain ⟨n, rfl⟩ := Int.eq_ofNat_of_zero_le x0
    clear hc3 hg3
    go_wp2_with fail
    refine (l01Text_any _ g _ a len cap n (by omega) HC3.out).mono ?_
    rintro e w4 ⟨t, rfl, ht, _, hg4⟩
    have hb4 : Below w.heap.size w w4 := hb3.trans (below_gb hg4 hg hb3.size)
    clear hg4
    go_wp2_with fail
    go_ret
    exact ⟨t, rfl, by omega, hb4⟩
  · go_wp2_with fail
    refine (l01Below_any _ g _ a len cap 2 (by omega) HC2.out).mono ?_
    rintro e w3 ⟨x, rfl, x0, x1, hc3, hg3⟩
    have hb3 : Below w.heap.size w w3 := hb2.trans (below_gb hg3 hg hb2.size)
    obtain ⟨n, rfl⟩ := Int.eq_ofNat_of_zero_le x0
    clear hc3 hg3
    go_wp2_with fail
    refine (long_int _ (20000 + (n : Int)) 200 (by omega) (by omega)).mono ?_
    rintro e w4 ⟨t, rfl, ht, hb4⟩
    go_wp2_with fail
    go_ret
    exact ⟨t, rfl, by omega, hb3.trans (hb4.mono hb3.size)⟩
end Go.Proofs.YthhpdkeajogkoaaDoor
