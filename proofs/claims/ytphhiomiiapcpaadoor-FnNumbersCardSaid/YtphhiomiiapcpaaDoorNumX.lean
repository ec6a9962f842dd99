/- The walk of the law on numbers. -/
import Derived.Test.YtphhiomiiapcpaaDoorNumW
namespace Go.Proofs.YtphhiomiiapcpaaDoor.fnNumbers
open Go.RowKit

theorem CodeAt.up {w : World} {B C len : Nat} {a : Option Addr} (h : CodeAt w B a len) (hC : B ≤ C) : CodeAt w C a len := by
  refine ⟨h.1, fun hl => ?_⟩
  obtain ⟨b, off, rfl, hlt, hx⟩ := h.2 hl
  exact ⟨b, off, rfl, by omega, hx⟩
theorem below_two {B : Nat} {a b c : World} (h : Below B a b) (k : Below b.heap.size b c) (hB : B ≤ b.heap.size) : Below B a c := h.trans (k.mono hB)

/-- What comes back of the number. -/
theorem readVar_framed (n : Nat) (w : World) (hn : n ≤ 1000000000) :
    Calls Tryd.prog 7 #[.string ((⟨#[120]⟩ : ByteArray) ++ ⟨(W.vt n).toArray⟩ ++ ⟨#[121]⟩), .int .i64 1] w fun e w' => e = .returned (.tuple #[.int .i64 n, .int .i64 (((W.vt n).length : Int) + 1), .bool true]) ∧ w' = w := by
  have h := implReadVar (framed n) 1 w (by have := framed_size n; have := vt_len5 n hn; omega)
  rw [framed_back n hn] at h
  have e : ((1 + (W.vt n).length : Nat) : Int) = ((W.vt n).length : Int) + 1 := by omega
  rw [← e]
  exact h
theorem decimal_back (n : Nat) (w : World) (hn : n ≤ 1000000000) :
    Calls Tryd.prog 8 #[.string ⟨(W.decS n).toArray⟩] w fun e w' => e = .returned (.tuple #[.int .i64 n, .bool true]) ∧ w' = w := by
  have hl : (W.decS n).length ≤ 11 := by
    unfold W.decS; split
    · simp
    · have := W.dg_len 10 n (by omega); omega
  have h := implReadDecimal ⟨(W.decS n).toArray⟩ w (by show (W.decS n).length ≤ 1048576; omega)
  have e : (⟨(W.decS n).toArray⟩ : ByteArray).data.toList = W.decS n := by simp
  rw [e, W.rdS_back n hn] at h
  exact h
theorem implDecimal_nat (n : Nat) (w : World) (hn : n ≤ 1000000000) (htab : Lib.TabIs Tryd.prog w "internal/strconv.uint64pow10" .u64 Lib.pow10Tab) :
    Calls Tryd.prog 9 #[.int .i64 n] w fun e w' => e = .returned (.string ⟨(W.decS n).toArray⟩) ∧ Below w.heap.size w w' := by
  have h := implDecimal n w (by omega) (by omega) htab
  have e : Lib.itoa (n : Int) = W.decS n := by unfold Lib.itoa; rw [if_neg (by omega), dec_is]; rfl
  rw [e] at h
  exact h
theorem readShort_back (t : ByteArray) (w : World) (ht : t.size ≤ 300) :
    Calls Tryd.prog 12 #[.string (shortB t), .int .i64 0] w fun e w' => e = .returned (.tuple #[.string t, .int .i64 (shortB t).size, .bool true]) ∧ Below w.heap.size w w' := by
  have hs := short_size t
  have hl := vt_len5 t.size (by omega)
  have h := implReadShort (shortB t) 0 w (by omega)
  rw [short_back t (by omega)] at h
  exact h
theorem unhex_back (t : ByteArray) (w : World) (ht : t.size ≤ 300) :
    Calls Tryd.prog 14 #[.string ⟨(W.hexL t.data.toList).toArray⟩] w fun e w' => e = .returned (.tuple #[.string t, .bool true]) ∧ Below w.heap.size w w' := by
  have hl : (⟨(W.hexL t.data.toList).toArray⟩ : ByteArray).size = 2 * t.size := W.hexL_len t.data.toList
  have h := implUnhex_yes ⟨(W.hexL t.data.toList).toArray⟩ w (by omega) (by omega)
  have e : (⟨(W.hexL t.data.toList).toArray⟩ : ByteArray).data.toList = W.hexL t.data.toList := by simp
  rw [e, W.unh_hexL] at h
  exact h
set_option maxHeartbeats 1000000 in
theorem walk (a : Option Addr) (len cap : Nat) (w : World) (hcode : len ≤ 1048576 → CodeAt w w.heap.size a len) (htab : Lib.TabIs Tryd.prog w "internal/strconv.uint64pow10" .u64 Lib.pow10Tab) :
    Calls Tryd.prog 3 #[.slice a len cap] w fun e w' => e = .returned (.bool true) ∧ Below w.heap.size w w' := by
  have HT : Hid (Lib.TabIs Tryd.prog w "internal/strconv.uint64pow10" .u64 Lib.pow10Tab) := htab
  have HCO : Hid (len ≤ 1048576 → CodeAt w w.heap.size a len) := hcode
  clear htab hcode
  by_cases hbig : 1048576 < len
  · have hbd : decide ((1048576 : Int) < len) = true := by simp; omega
    go_enter Tryd.func3, Tryd.ntmps3
    go_wp2_with fail
    refine (big_any a len cap _).mono ?_
    rintro e w1 ⟨rfl, rfl⟩
    go_wp2_with fail
    go_ret
    exact ⟨rfl, Below.refl _ _⟩
  · have hbd : decide ((1048576 : Int) < len) = false := by simp; omega
    have HC : Hid (CodeAt w w.heap.size a len) := HCO.out (by omega)
    clear HCO
    go_enter Tryd.func3, Tryd.ntmps3
    go_wp2_with fail
    refine (big_any a len cap _).mono ?_
    rintro e w0 ⟨rfl, e0⟩
    subst e0
    go_wp2_with fail
    refine (drawVarText_any _ a len cap HC.out).mono ?_
    rintro e w1 ⟨x, rfl, hb1⟩
    obtain ⟨n, hn, hx⟩ : ∃ n : Nat, n ≤ 1000000000 ∧ ((n : Int) = x ∨ ((x < 0 ∨ 1000000000 < x) ∧ n = 12345)) := by
      by_cases h : 0 ≤ x ∧ x ≤ 1000000000
      · exact ⟨x.toNat, by omega, .inl (by omega)⟩
      · exact ⟨12345, by omega, .inr ⟨by omega, rfl⟩⟩
    have hl5 := vt_len5 n hn
    have hfs := framed_size n
    clear hfs hl5
    rcases hx with hx | ⟨hx, h12⟩
    · subst hx
      go_wp2_with fail
      have hl5 := vt_len5 n hn
      refine (implVarText_yes n _ hn).mono ?_
      rintro e w2 ⟨rfl, hb2⟩
      have hB2 := below_two hb1 hb2 hb1.size
      go_wp2_with fail
      refine (readVar_framed n _ hn).mono ?_
      rintro e w3 ⟨rfl, e3⟩
      subst e3
      go_wp2_with fail
      refine (implDecimal_nat n _ hn (Joins.tab_stays gPow HT.out hB2 (Nat.le_refl _))).mono ?_
      rintro e w4 ⟨rfl, hb4⟩
      have hB4 := below_two hB2 hb4 hB2.size
      go_wp2_with fail
      refine (decimal_back n _ hn).mono ?_
      rintro e w4' ⟨rfl, e4⟩
      subst e4
      go_wp2_with fail
      refine (drawHex_any _ a len cap (CodeAt.up (CodeAt.below HC.out hB4 (Nat.le_refl _)) hB4.size)).mono ?_
      rintro e w5 ⟨t, rfl, ht0, hb5⟩
      have hB5 := below_two hB4 hb5 hB4.size
      by_cases ht : 300 < t.size
      · clear ht0
        go_wp2_with fail
        obtain ⟨t, ht3, ht⟩ : ∃ t : ByteArray, t = ⟨#[97, 98, 99]⟩ ∧ t.size ≤ 300 := ⟨_, rfl, by decide⟩
        rw [← ht3]
        clear ht3
        have hs3 := short_size t
        have hl3 := vt_len5 t.size (by omega)
        refine (implShortText_yes t _ (by omega)).mono ?_
        rintro e w6 ⟨rfl, hb6⟩
        have hB6 := below_two hB5 hb6 hB5.size
        go_wp2_with fail
        refine (readShort_back t _ ht).mono ?_
        rintro e w7 ⟨rfl, hb7⟩
        have hB7 := below_two hB6 hb7 hB6.size
        go_wp2_with fail
        refine (implHex_yes t _ (by omega)).mono ?_
        rintro e w8 ⟨rfl, hb8⟩
        have hB8 := below_two hB7 hb8 hB7.size
        go_wp2_with fail
        refine (unhex_back t _ ht).mono ?_
        rintro e w9 ⟨rfl, hb9⟩
        have hB9 := below_two hB8 hb9 hB8.size
        go_wp2_with fail
        go_ret
        exact ⟨rfl, hB9⟩
      · have ht : t.size ≤ 300 := by omega
        clear ht0
        go_wp2_with fail
        have hs3 := short_size t
        have hl3 := vt_len5 t.size (by omega)
        refine (implShortText_yes t _ (by omega)).mono ?_
        rintro e w6 ⟨rfl, hb6⟩
        have hB6 := below_two hB5 hb6 hB5.size
        go_wp2_with fail
        refine (readShort_back t _ ht).mono ?_
        rintro e w7 ⟨rfl, hb7⟩
        have hB7 := below_two hB6 hb7 hB6.size
        go_wp2_with fail
        refine (implHex_yes t _ (by omega)).mono ?_
        rintro e w8 ⟨rfl, hb8⟩
        have hB8 := below_two hB7 hb8 hB7.size
        go_wp2_with fail
        refine (unhex_back t _ ht).mono ?_
        rintro e w9 ⟨rfl, hb9⟩
        have hB9 := below_two hB8 hb9 hB8.size
        go_wp2_with fail
        go_ret
        exact ⟨rfl, hB9⟩
    · clear h12 hn
      rcases hx with hx | hx
      · go_wp2_with fail
        obtain ⟨n, h12, hn⟩ : ∃ n : Nat, (n : Int) = 12345 ∧ n ≤ 1000000000 := ⟨12345, rfl, by omega⟩
        rw [← h12]
        clear h12
        have hl5 := vt_len5 n hn
        refine (implVarText_yes n _ hn).mono ?_
        rintro e w2 ⟨rfl, hb2⟩
        have hB2 := below_two hb1 hb2 hb1.size
        go_wp2_with fail
        refine (readVar_framed n _ hn).mono ?_
        rintro e w3 ⟨rfl, e3⟩
        subst e3
        go_wp2_with fail
        refine (implDecimal_nat n _ hn (Joins.tab_stays gPow HT.out hB2 (Nat.le_refl _))).mono ?_
        rintro e w4 ⟨rfl, hb4⟩
        have hB4 := below_two hB2 hb4 hB2.size
        go_wp2_with fail
        refine (decimal_back n _ hn).mono ?_
        rintro e w4' ⟨rfl, e4⟩
        subst e4
        go_wp2_with fail
        refine (drawHex_any _ a len cap (CodeAt.up (CodeAt.below HC.out hB4 (Nat.le_refl _)) hB4.size)).mono ?_
        rintro e w5 ⟨t, rfl, ht0, hb5⟩
        have hB5 := below_two hB4 hb5 hB4.size
        by_cases ht : 300 < t.size
        · clear ht0
          go_wp2_with fail
          obtain ⟨t, ht3, ht⟩ : ∃ t : ByteArray, t = ⟨#[97, 98, 99]⟩ ∧ t.size ≤ 300 := ⟨_, rfl, by decide⟩
          rw [← ht3]
          clear ht3
          have hs3 := short_size t
          have hl3 := vt_len5 t.size (by omega)
          refine (implShortText_yes t _ (by omega)).mono ?_
          rintro e w6 ⟨rfl, hb6⟩
          have hB6 := below_two hB5 hb6 hB5.size
          go_wp2_with fail
          refine (readShort_back t _ ht).mono ?_
          rintro e w7 ⟨rfl, hb7⟩
          have hB7 := below_two hB6 hb7 hB6.size
          go_wp2_with fail
          refine (implHex_yes t _ (by omega)).mono ?_
          rintro e w8 ⟨rfl, hb8⟩
          have hB8 := below_two hB7 hb8 hB7.size
          go_wp2_with fail
          refine (unhex_back t _ ht).mono ?_
          rintro e w9 ⟨rfl, hb9⟩
          have hB9 := below_two hB8 hb9 hB8.size
          go_wp2_with fail
          go_ret
          exact ⟨rfl, hB9⟩
        · have ht : t.size ≤ 300 := by omega
          clear ht0
          go_wp2_with fail
          have hs3 := short_size t
          have hl3 := vt_len5 t.size (by omega)
          refine (implShortText_yes t _ (by omega)).mono ?_
          rintro e w6 ⟨rfl, hb6⟩
          have hB6 := below_two hB5 hb6 hB5.size
          go_wp2_with fail
          refine (readShort_back t _ ht).mono ?_
          rintro e w7 ⟨rfl, hb7⟩
          have hB7 := below_two hB6 hb7 hB6.size
          go_wp2_with fail
          refine (implHex_yes t _ (by omega)).mono ?_
          rintro e w8 ⟨rfl, hb8⟩
          have hB8 := below_two hB7 hb8 hB7.size
          go_wp2_with fail
          refine (unhex_back t _ ht).mono ?_
          rintro e w9 ⟨rfl, hb9⟩
          have hB9 := below_two hB8 hb9 hB8.size
          go_wp2_with fail
          go_ret
          exact ⟨rfl, hB9⟩
      · have hx0 : ¬ x < 0 := by omega
        go_wp2_with fail
        obtain ⟨n, h12, hn⟩ : ∃ n : Nat, (n : Int) = 12345 ∧ n ≤ 1000000000 := ⟨12345, rfl, by omega⟩
        rw [← h12]
        clear h12
        have hl5 := vt_len5 n hn
        refine (implVarText_yes n _ hn).mono ?_
        rintro e w2 ⟨rfl, hb2⟩
        have hB2 := below_two hb1 hb2 hb1.size
        go_wp2_with fail
        refine (readVar_framed n _ hn).mono ?_
        rintro e w3 ⟨rfl, e3⟩
        subst e3
        go_wp2_with fail
        refine (implDecimal_nat n _ hn (Joins.tab_stays gPow HT.out hB2 (Nat.le_refl _))).mono ?_
        rintro e w4 ⟨rfl, hb4⟩
        have hB4 := below_two hB2 hb4 hB2.size
        go_wp2_with fail
        refine (decimal_back n _ hn).mono ?_
        rintro e w4' ⟨rfl, e4⟩
        subst e4
        go_wp2_with fail
        refine (drawHex_any _ a len cap (CodeAt.up (CodeAt.below HC.out hB4 (Nat.le_refl _)) hB4.size)).mono ?_
        rintro e w5 ⟨t, rfl, ht0, hb5⟩
        have hB5 := below_two hB4 hb5 hB4.size
        by_cases ht : 300 < t.size
        · clear ht0
          go_wp2_with fail
          obtain ⟨t, ht3, ht⟩ : ∃ t : ByteArray, t = ⟨#[97, 98, 99]⟩ ∧ t.size ≤ 300 := ⟨_, rfl, by decide⟩
          rw [← ht3]
          clear ht3
          have hs3 := short_size t
          have hl3 := vt_len5 t.size (by omega)
          refine (implShortText_yes t _ (by omega)).mono ?_
          rintro e w6 ⟨rfl, hb6⟩
          have hB6 := below_two hB5 hb6 hB5.size
          go_wp2_with fail
          refine (readShort_back t _ ht).mono ?_
          rintro e w7 ⟨rfl, hb7⟩
          have hB7 := below_two hB6 hb7 hB6.size
          go_wp2_with fail
          refine (implHex_yes t _ (by omega)).mono ?_
          rintro e w8 ⟨rfl, hb8⟩
          have hB8 := below_two hB7 hb8 hB7.size
          go_wp2_with fail
          refine (unhex_back t _ ht).mono ?_
          rintro e w9 ⟨rfl, hb9⟩
          have hB9 := below_two hB8 hb9 hB8.size
          go_wp2_with fail
          go_ret
          exact ⟨rfl, hB9⟩
        · have ht : t.size ≤ 300 := by omega
          clear ht0
          go_wp2_with fail
          have hs3 := short_size t
          have hl3 := vt_len5 t.size (by omega)
          refine (implShortText_yes t _ (by omega)).mono ?_
          rintro e w6 ⟨rfl, hb6⟩
          have hB6 := below_two hB5 hb6 hB5.size
          go_wp2_with fail
          refine (readShort_back t _ ht).mono ?_
          rintro e w7 ⟨rfl, hb7⟩
          have hB7 := below_two hB6 hb7 hB6.size
          go_wp2_with fail
          refine (implHex_yes t _ (by omega)).mono ?_
          rintro e w8 ⟨rfl, hb8⟩
          have hB8 := below_two hB7 hb8 hB7.size
          go_wp2_with fail
          refine (unhex_back t _ ht).mono ?_
          rintro e w9 ⟨rfl, hb9⟩
          have hB9 := below_two hB8 hb9 hB8.size
          go_wp2_with fail
          go_ret
          exact ⟨rfl, hB9⟩
end Go.Proofs.YtphhiomiiapcpaaDoor.fnNumbers
