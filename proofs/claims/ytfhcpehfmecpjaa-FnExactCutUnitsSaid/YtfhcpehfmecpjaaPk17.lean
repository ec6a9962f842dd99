/- Texts of ours, laid one behind the other: TDec, TStrsB, TTvA, TStrV, TSpnC, THexM, TSpnD, TNestB, TNestC, TSpnE, TStrW, TLawStr, TStI. -/
import Derived.Test.YtfhcpehfmecpjaaPk16
import Derived.PlainAid
import Derived.Deep.LoopGhost
import Derived.BigQuiet
import Derived.Deep.QuietTactic
import Derived.Deep.RegionHeld3
import Derived.Deep.DrawnRows
set_option linter.unusedVariables false
set_option linter.unusedSimpArgs false
/- The walks of the models' Decimal, and of the two ReadDecimal. -/
namespace Go.Proofs.YtfhcpehfmecpjaaT
open Go.RowKit
open Go.PlainAid (bt)

/-- The text of one byte. -/
def oneB (c : Int) : ByteArray := ⟨#[UInt8.ofNat c.toNat]⟩
theorem oneB_size (c : Int) : (oneB c).size = 1 := rfl
/-- 'string([]byte{c})'. -/
theorem one_byte (W : World) (c : Int) (h0 : 0 ≤ c) (h1 : c < 256) :
    (convert 22 9 (.slice (some ⟨W.heap.size, 0, none⟩) 1 1)).run Tw.prog (W.alloc (.cells #[.int .u8 c] 5)) =
      .ok (.string (oneB c)) (W.alloc (.cells #[.int .u8 c] 5)) := by
  have := run_convert_bytes_back (P := Tw.prog) (W.alloc (.cells #[.int .u8 c] 5)) 22 9 5 ⟨W.heap.size, 0, none⟩ 1 [UInt8.ofNat c.toNat] Tw.underlying22 Tw.underlying5 Tw.underlying9
    (fun j hj => by
      have : j = 0 := by simp at hj; omega
      subst this
      have e := byte_of c h0 h1
      rw [e]
      exact cell_one_new W _ _ 0 _ rfl)
  simpa [oneB] using this

theorem dg_more {n m : Nat} {s : ByteArray} (hm : 0 < m) (h : W.dg m ++ s.data.toList = W.dg n) (c : Int) (hc : c = 48 + ((m % 10 : Nat) : Int)) :
    W.dg (m / 10) ++ (oneB c ++ s).data.toList = W.dg n := by
  rw [← h, W.dg_step m hm]
  have e : UInt8.ofNat c.toNat = UInt8.ofNat (48 + m % 10) := by rw [hc]; congr 1
  unfold oneB
  rw [e]
  simp

theorem neg_words (m : Nat) (h : m ≤ 9223372036854775808) : (-(m : Int)).tmod 10 = -((m : Int) % 10) ∧ (-(m : Int)).tdiv 10 = -((m : Int) / 10) := by
  rw [Int.neg_tmod, Int.neg_tdiv, Int.tmod_eq_emod_of_nonneg (by omega), Int.tdiv_eq_ediv_of_nonneg (by omega)]
  exact ⟨rfl, rfl⟩

end Go.Proofs.YtfhcpehfmecpjaaT
/- Slices of strings: marks that are laid into one, and found again. -/
namespace Go.Proofs.YtfhcpehfmecpjaaT
open Go.RowKit
attribute [local go_sem ↓] Go.wp_at_zero Go.wp_at_succ

/-- The text of a mark. -/
def mt (k : Nat) : ByteArray := (⟨#[109]⟩ : ByteArray) ++ ⟨(W.decS k).toArray⟩

set_option maxHeartbeats 400000 in
theorem markText_any (n : Nat) (w : World) (hn : 0 < n) (hm : n ≤ 1000000000) :
    Calls Tw.prog 29 #[.int .i64 n] w fun e w' => e = .returned (.string (mt n)) ∧ Below w.heap.size w w' := by
  have h0 : decide ((n : Int) ≤ 0) = false := by simp; omega
  have hl := W.dg_len 20 n (by omega)
  go_enter Tw.func29, Tw.ntmps29
  go_wp2_with fail
  go_loopw [0, 3] (fun i v wr => ∃ (m : Nat) (s : ByteArray), i = .int .i64 m ∧ v = .string s ∧ m ≤ n ∧ W.dg m ++ s.data.toList = W.dg n ∧ Below w.heap.size w wr) (fun i _ _ => (intOf i).toNat)
  case atStart => exact ⟨n, ⟨#[]⟩, rfl, rfl, Nat.le_refl _, by simp, Below.refl _ _⟩
  case round =>
    obtain ⟨m, s, rfl, rfl, hmn, hs, hb⟩ := hrel
    have HS : Hid (W.dg m ++ s.data.toList = W.dg n) := hs
    have hsz : s.size ≤ 20 := by have := congrArg List.length hs; simp at this; have e : s.data.size = s.size := rfl; omega
    clear hs
    by_cases hz : m = 0
    · subst hz
      have hst : mt n = (⟨#[109]⟩ : ByteArray) ++ s := by
        have := HS.out
        rw [W.dg_zero, List.nil_append] at this
        unfold mt W.decS
        rw [if_neg (by omega), ← this]
      have HT : Hid _ := hst
      clear hst
      go_wp2_with fail
      go_ret
      refine ⟨?_, hb⟩
      rw [HT.out]
      rfl
    · have hp : 0 < m := by omega
      have hB := hb.size
      have ho := oneB_size (48 + (m : Int) % 10)
      have hcv := one_byte wr (48 + (m : Int) % 10) (by omega) (by omega)
      go_wp2_with fail
      go_roundw
      case rel => exact ⟨m / 10, _, by go_num, rfl, by omega, dg_more hp HS.out _ (by omega), hb.alloc hB _⟩
      case measure => simp [intOf]; omega
theorem markText_int (x : Int) (w : World) (h0 : 0 < x) (h1 : x ≤ 1000000000) :
    Calls Tw.prog 29 #[.int .i64 x] w fun e w' => e = .returned (.string (mt x.toNat)) ∧ Below w.heap.size w w' := by
  obtain ⟨n, rfl⟩ := Int.eq_ofNat_of_zero_le (Int.le_of_lt h0)
  exact markText_any n w (by omega) (by omega)

/-- Marks from k on. -/
def marks (k n : Nat) : List ByteArray := (List.range n).map fun j => mt (k + j)
theorem marks_len (k n : Nat) : (marks k n).length = n := by simp [marks]
theorem marks_at (k n j : Nat) (h : j < n) : (marks k n).getD j ⟨#[]⟩ = mt (k + j) := by simp [marks, List.getD, h]

set_option maxHeartbeats 400000 in
theorem heldStringS_any (a : Option Addr) (k n ca : Nat) (w : World) (ha : SRow w a (marks k n)) (hk : 0 < k) (hn : k + n ≤ 100000000) :
    Calls Tw.prog 14 #[.slice a n ca, .int .i64 k] w fun e w' => e = .returned (.int .i64 (k + n : Nat)) ∧ Below w.heap.size w w' := by
  go_enter Tw.func14, Tw.ntmps14
  go_wp2_with fail
  go_loopw [1, 5] (fun c i wr => ∃ (j : Nat), i = .int .i64 j ∧ c = .int .i64 (k + j : Nat) ∧ j ≤ n ∧ Below w.heap.size w wr) (fun _ i _ => n - (intOf i).toNat)
  case atStart => exact ⟨0, rfl, rfl, Nat.zero_le _, Below.refl _ _⟩
  case round =>
    obtain ⟨j, rfl, rfl, hj, hb⟩ := hrel
    have hB := hb.size
    by_cases hlt : j < n
    · obtain ⟨g, rfl, hg, hc⟩ := ha (by rw [marks_len]; omega)
      have c1 := hc j (by rw [marks_len]; omega)
      rw [marks_at k n j hlt, ← hb.cell (p := ⟨g, j, none⟩) hg] at c1
      have j0 : (0 : Int) ≤ (j : Int) := by omega
      have j1 : (j : Int) < (n : Int) := by omega
      clear hc
      go_wp2_with fail
      go_region_held3 (fun w' => w'.cell? ⟨g, j, none⟩ = some (.string (mt (k + j)))) (first | go_keep | (rw [hb1.cell (p := ⟨g, j, none⟩) (by simp; omega)]; assumption)) ((go_at_call 29; refine (markText_any (k + j) _ ?_ ?_).mono ?_; (omega); (omega); rintro e w1 ⟨rfl, hb1⟩))
      all_goals go_wp2_with fail
      exact ⟨⟨j + 1, by go_num, congrArg (Value.int .i64) (by omega), by omega, hb.trans ((Below.drew (Below.refl _ _)).trans (hb1.mono hB))⟩, by simp [intOf]; omega⟩
    · have e : j = n := by omega
      subst e
      go_wp2_with fail
      go_ret
      exact ⟨rfl, hb⟩

/-- A row of strings that may be written. -/
def WRow (w : World) (g : Nat) (xs : List ByteArray) : Prop :=
  g < w.heap.size ∧ ∀ j, j < xs.length → w.cell? ⟨g, j, none⟩ = some (.string (xs.getD j ⟨#[]⟩)) ∧ w.frozen? ⟨g, j, none⟩ = false
theorem WRow.srow {w : World} {g : Nat} {xs : List ByteArray} (h : WRow w g xs) : SRow w (some ⟨g, 0, none⟩) xs := fun _ => ⟨g, rfl, h.1, fun j hj => (h.2 j hj).1⟩
theorem WRow.below {w w' : World} {g B : Nat} {xs : List ByteArray} (h : WRow w g xs) (hb : Below B w w') (hg : g < B) : WRow w' g xs :=
  ⟨Nat.lt_of_lt_of_le h.1 hb.size, fun j hj => ⟨(hb.cell (p := ⟨g, j, none⟩) hg).trans (h.2 j hj).1, (hb.frozen (p := ⟨g, j, none⟩) hg).trans (h.2 j hj).2⟩⟩
theorem WRow.set {w : World} {g : Nat} {xs : List ByteArray} (h : WRow w g xs) (i : Nat) (x : ByteArray) (hi : i < xs.length) : WRow (w.setCell ⟨g, i, none⟩ (.string x)) g (xs.set i x) := by
  refine ⟨by have := h.1; simpa [World.setCell] using this, fun j hj => ?_⟩
  rw [List.length_set] at hj
  refine ⟨?_, (World.frozen?_setCell _ _ _ _).trans (h.2 j hj).2⟩
  by_cases e : j = i
  · subst e
    rw [World.cell?_setCell_same _ _ _ (h.2 j hj).1]
    simp [List.getD, hi]
  · rw [World.cell?_setCell_other _ _ _ _ (by first | (simp; done) | (simp; omega)), (h.2 j hj).1]
    simp [List.getD, Ne.symm e]
theorem grownBy_setCell (w : World) (g i : Nat) (v : Value) : w.grownBy (w.setCell ⟨g, i, none⟩ v) (some g) :=
  ⟨rfl, rfl, rfl, by simp [World.setCell], fun k _ hk => Below.heap_setCell _ _ _ _ (fun e => hk (by rw [e]))⟩
theorem grownBy_below {w w' : World} {g : Nat} (h : Below w.heap.size w w') : w.grownBy w' (some g) := ⟨h.os, h.tape, h.output, h.size, fun k hk _ => h.block k hk⟩
theorem grownBy_two {a b c : World} {g : Nat} (h : a.grownBy b (some g)) (k : b.grownBy c (some g)) : a.grownBy c (some g) :=
  ⟨k.os.trans h.os, k.tape.trans h.tape, k.output.trans h.output, Nat.le_trans h.size k.size, fun i hi hn => (k.block i (Nat.lt_of_lt_of_le hi h.size) hn).trans (h.block i hi hn)⟩

theorem set_marks {k j : Nat} {ys : List ByteArray} (h : ∀ t, t < j → ys.getD t ⟨#[]⟩ = mt (k + t)) (hj : j < ys.length) : ∀ t, t < j + 1 → (ys.set j (mt (k + j))).getD t ⟨#[]⟩ = mt (k + t) := by
  intro t ht
  by_cases e : t = j
  · subst e; simp [List.getD, hj]
  · have := h t (by omega)
    simpa [List.getD, List.getElem?_set, Ne.symm e] using this
theorem wrow_marks {w : World} {g k n : Nat} {ys : List ByteArray} (h : WRow w g ys) (hl : ys.length = n) (hy : ∀ t, t < n → ys.getD t ⟨#[]⟩ = mt (k + t)) : WRow w g (marks k n) := by
  refine ⟨h.1, fun j hj => ?_⟩
  rw [marks_len] at hj
  have := h.2 j (by omega)
  rw [marks_at k n j hj, ← hy j hj]
  exact this
theorem markStringS_none (a : Option Addr) (k ca : Nat) (w : World) :
    Calls Tw.prog 13 #[.slice a 0 ca, .int .i64 k] w fun e w' => e = .returned (.int .i64 k) ∧ w' = w := by
  go_enter Tw.func13, Tw.ntmps13
  go_wp2_with fail
  go_rounds 1
  go_ret
  exact ⟨rfl, rfl⟩

set_option maxHeartbeats 400000 in
theorem markStringS_any (g : Nat) (xs : List ByteArray) (k ca : Nat) (w : World) (ha : WRow w g xs) (hk : 0 < k) (hn : k + xs.length ≤ 100000000) (hca : xs.length ≤ ca) :
    Calls Tw.prog 13 #[.slice (some ⟨g, 0, none⟩) xs.length ca, .int .i64 k] w fun e w' => e = .returned (.int .i64 (k + xs.length : Nat)) ∧ WRow w' g (marks k xs.length) ∧ w.grownBy w' (some g) := by
  obtain ⟨n, hnx⟩ : ∃ n, n = xs.length := ⟨_, rfl⟩
  have HN : Hid (n = xs.length) := hnx
  rw [← hnx]
  rw [← hnx] at hn hca
  clear hnx
  go_enter Tw.func13, Tw.ntmps13
  go_wp2_with fail
  go_loopw [1, 5] (fun c i wr => ∃ (j : Nat) (ys : List ByteArray), i = .int .i64 j ∧ c = .int .i64 (k + j : Nat) ∧ j ≤ n ∧ ys.length = n ∧ (∀ t, t < j → ys.getD t ⟨#[]⟩ = mt (k + t)) ∧ WRow wr g ys ∧ w.grownBy wr (some g)) (fun _ i _ => n - (intOf i).toNat)
  case atStart => exact ⟨0, xs, rfl, rfl, Nat.zero_le _, HN.out.symm, fun t ht => by omega, ha, grownBy_below (Below.refl _ _)⟩
  case round =>
    obtain ⟨j, ys, rfl, rfl, hj, hyl, hys, hw, hgr⟩ := hrel
    have HL : Hid (ys.length = n) := hyl
    have HY : Hid _ := hys
    clear hyl hys
    by_cases hlt : j < n
    · have j0 : (0 : Int) ≤ (j : Int) := by omega
      have j1 : (j : Int) < (n : Int) := by omega
      go_wp2_with fail
      refine (markText_any (k + j) _ (by omega) (by omega)).mono ?_
      rintro e w1 ⟨rfl, hb1⟩
      have hw1 := hw.below hb1 hw.1
      have c1 := (hw1.2 j (by have := HL.out; omega)).1
      have c2 := (hw1.2 j (by have := HL.out; omega)).2
      have hset := hw1.set j (mt (k + j)) (by have := HL.out; omega)
      have hgs := grownBy_two hgr (grownBy_two (grownBy_below hb1) (grownBy_setCell w1 g j (.string (mt (k + j)))))
      clear hw hgr hb1
      go_wp2_with fail
      go_roundw
      case rel => exact ⟨j + 1, _, by go_num, congrArg (Value.int .i64) (by omega), by omega, by rw [List.length_set]; exact HL.out, set_marks HY.out (by have := HL.out; omega), hset, hgs⟩
      case measure => simp [intOf]; omega
    · have e : j = n := by omega
      subst e
      have hfin := wrow_marks hw HL.out HY.out
      go_wp2_with fail
      go_ret
      exact ⟨rfl, hfin, hgr⟩
end Go.Proofs.YtfhcpehfmecpjaaT
/- Rows of texts that a call has made. -/
namespace Go.Proofs.YtfhcpehfmecpjaaT
open Go.RowKit

/-- Texts as the cells of a row. -/
def tv (l : List ByteArray) : List Value := l.map Value.string
theorem tv_snoc (l : List ByteArray) (x : ByteArray) : tv l ++ [.string x] = tv (l ++ [x]) := by simp [tv]
theorem tv_len (l : List ByteArray) : (tv l).length = l.length := by simp [tv]
theorem Tw.info9 : (Tw.prog.info? 9).map (fun i => (i.zero, i.size, i.bytes)) = some (some (.string ⟨#[]⟩), 1, 16) := by kernel_rfl

/-- A row of texts that a call has made: nothing of it is older than B. -/
def RowAt (w : World) (B : Nat) (a : Option Addr) (xs : List ByteArray) (cap : Nat) : Prop := xs.length ≤ cap ∧ (xs = [] ∨ ∃ g, a = some ⟨g, 0, none⟩ ∧ B ≤ g ∧ WRow w g xs)
theorem own_rowAt {w : World} {B : Nat} {v : Value} {xs : List ByteArray} (h : w.ownsRow B 9 1 v xs.length (tv xs)) : ∃ a cap, v = .slice a xs.length cap ∧ RowAt w B a xs cap := by
  have hc : ∀ g, v.ownBlock = some g → ∀ j u, (tv xs)[j]? = some u → w.cell? ((⟨g, 0, none⟩ : Addr).add j) = some u := fun g hg => h.cells hg
  have hlt := h.lt
  obtain ⟨_, ⟨rfl, h0⟩ | ⟨g, cap, cur, rfl, hB, hcur, hn, _, hsz, _⟩⟩ := h
  · have : xs = [] := List.eq_nil_of_length_eq_zero h0
    subst this
    exact ⟨none, 0, rfl, by simp, .inl rfl⟩
  · refine ⟨_, cap, rfl, hn, .inr ⟨g, rfl, hB, (hlt g rfl).2, fun j hj => ⟨?_, ?_⟩⟩⟩
    · have := hc g rfl j _ (show (tv xs)[j]? = some _ by simp [tv, hj]; rfl)
      have e : (⟨g, 0, none⟩ : Addr).add j = ⟨g, j, none⟩ := by
        cases j <;> simp [Addr.add]
      rw [e] at this
      simpa [List.getD, hj] using this
    · unfold World.frozen?
      rw [hcur]; simp
end Go.Proofs.YtfhcpehfmecpjaaT
/- Rows of texts as values: what is seen of one, what an answer is, what is marked, and the laws' own functions over them. -/
namespace Go.Proofs.YtfhcpehfmecpjaaT
open Go.RowKit
attribute [local go_sem ↓] Go.wp_at_zero Go.wp_at_succ

theorem tv_get (L : List ByteArray) (j : Nat) (h : j < L.length) : (tv L)[j]? = some (.string (L.getD j ⟨#[]⟩)) := by simp [tv, List.getD, h]
theorem tv_set (L : List ByteArray) (j : Nat) (x : ByteArray) : (tv L).set j (.string x) = tv (L.set j x) := by simp [tv, List.map_set]
theorem wrow_cells {w : World} {g : Nat} {L : List ByteArray} : WRow w g L ↔ WCells w g (tv L) := by
  constructor
  · intro h
    refine ⟨h.1, fun i v hv => ?_⟩
    have hi : i < L.length := by have := (List.getElem?_eq_some_iff.1 hv).1; rw [tv_len] at this; exact this
    rw [tv_get L i hi] at hv
    cases hv
    exact h.2 i hi
  · intro h
    exact ⟨h.1, fun j hj => h.2 j _ (tv_get L j hj)⟩
/-- How many bytes there are. -/
def tsum : List ByteArray → Nat
  | [] => 0
  | x :: L => x.size + tsum L
theorem tsum_mem {L : List ByteArray} {x : ByteArray} (h : x ∈ L) : x.size ≤ tsum L := by
  induction L with
  | nil => simp at h
  | cons t L ih =>
    rcases List.mem_cons.1 h with rfl | h
    · simp only [tsum]; omega
    · have := ih h; simp only [tsum]; omega
theorem tsum_append (L M : List ByteArray) : tsum (L ++ M) = tsum L + tsum M := by
  induction L with
  | nil => simp [tsum]
  | cons t L ih => simp only [List.cons_append, tsum]; omega
theorem tsum_take (L : List ByteArray) (k : Nat) (h : k < L.length) : tsum (L.take (k + 1)) = tsum (L.take k) + (L.getD k ⟨#[]⟩).size := by
  rw [List.take_succ_eq_append_getElem h, tsum_append]
  have e : L.getD k ⟨#[]⟩ = L[k] := by simp [List.getD, h]
  rw [e]; simp [tsum]
theorem tsum_le (L : List ByteArray) (k : Nat) : tsum (L.take k) ≤ tsum L := by
  have := tsum_append (L.take k) (L.drop k)
  rw [List.take_append_drop] at this
  omega
/-- Texts that a machine can hold. -/
def TFit (L : List ByteArray) : Prop := L.length + tsum L ≤ 1048576
/-- A value that is these texts. -/
def SSee (w : World) (v : Value) (L : List ByteArray) (lo hi : Nat) : Prop := ∃ (a : Option Addr) (cap : Nat), v = .slice a L.length cap ∧ RRow w a (tv L) lo hi
/-- An answer of texts: nothing, or a row that may be written. -/
def SAns (w : World) (v : Value) (L : List ByteArray) (lo hi : Nat) : Prop := ∃ (a : Option Addr) (cap : Nat), v = .slice a L.length cap ∧ L.length ≤ cap ∧ (L = [] ∨ ∃ g, a = some ⟨g, 0, none⟩ ∧ lo ≤ g ∧ g < hi ∧ WCells w g (tv L))
theorem SAns.see {w : World} {v : Value} {L : List ByteArray} {lo hi : Nat} (h : SAns w v L lo hi) : SSee w v L lo hi := by
  obtain ⟨a, cap, e, _, h1⟩ := h
  refine ⟨a, cap, e, ?_⟩
  rcases h1 with rfl | ⟨g, rfl, q1, q2, hm⟩
  · intro h; simp [tv] at h
  · exact RRow.of_wcells hm q1 q2
theorem SSee.turned {w w' : World} {v : Value} {L : List ByteArray} {lo hi lo' hi' : Nat} (h : SSee w v L lo hi) (t : Turned w w' lo' hi') (hd : hi ≤ lo' ∨ hi' ≤ lo) : SSee w' v L lo hi := by
  obtain ⟨a, cap, e, h1⟩ := h
  exact ⟨a, cap, e, h1.turned t hd⟩
theorem SSee.below {w w' : World} {v : Value} {L : List ByteArray} {lo hi : Nat} (h : SSee w v L lo hi) (hb : Below w.heap.size w w') : SSee w' v L lo hi := by
  obtain ⟨a, cap, e, h1⟩ := h
  exact ⟨a, cap, e, h1.below hb⟩
theorem SAns.turned {w w' : World} {v : Value} {L : List ByteArray} {lo hi lo' hi' : Nat} (h : SAns w v L lo hi) (t : Turned w w' lo' hi') (hd : hi ≤ lo' ∨ hi' ≤ lo) : SAns w' v L lo hi := by
  obtain ⟨a, cap, e, hc, h1⟩ := h
  refine ⟨a, cap, e, hc, ?_⟩
  rcases h1 with rfl | ⟨g, rfl, q1, q2, hm⟩
  · exact .inl rfl
  · exact .inr ⟨g, rfl, q1, q2, hm.turned t (by omega)⟩
theorem SAns.below {w w' : World} {v : Value} {L : List ByteArray} {lo hi : Nat} (h : SAns w v L lo hi) (hb : Below w.heap.size w w') : SAns w' v L lo hi := by
  obtain ⟨a, cap, e, hc, h1⟩ := h
  refine ⟨a, cap, e, hc, ?_⟩
  rcases h1 with rfl | ⟨g, rfl, q1, q2, hm⟩
  · exact .inl rfl
  · exact .inr ⟨g, rfl, q1, q2, hm.grow hb⟩
theorem SAns.empty (w : World) (a : Option Addr) (cap lo hi : Nat) : SAns w (.slice a 0 cap) [] lo hi := ⟨a, cap, rfl, Nat.zero_le _, .inl rfl⟩
theorem SAns.srow {w : World} {v : Value} {L : List ByteArray} {lo hi : Nat} (h : SAns w v L lo hi) : ∃ a cap, v = .slice a L.length cap ∧ SRow w a L := by
  obtain ⟨a, cap, e, _, h1⟩ := h
  refine ⟨a, cap, e, ?_⟩
  rcases h1 with rfl | ⟨g, rfl, _, _, hm⟩
  · intro h; simp at h
  · exact (wrow_cells.2 hm).srow
/-- What an answer of texts is: new memory alone. -/
def SPost (L : List ByteArray) (w : World) (e : Ending) (w' : World) : Prop := ∃ v, e = .returned v ∧ SAns w' v L w.heap.size w'.heap.size ∧ Below w.heap.size w w'
theorem own_sans {w w' : World} {v : Value} {L : List ByteArray} {n : Nat} (hn : L.length = n) (h : w'.ownsRow w.heap.size 9 1 v n (tv L)) : SAns w' v L w.heap.size w'.heap.size := by
  have h' := h
  rw [← hn] at h'
  obtain ⟨a, cap, rfl, hc, h1⟩ := own_rowAt h'
  refine ⟨a, cap, rfl, hc, ?_⟩
  rcases h1 with rfl | ⟨g, rfl, q1, hm⟩
  · exact .inl rfl
  · exact .inr ⟨g, rfl, q1, hm.1, wrow_cells.1 hm⟩
theorem infoTextG : (Tw.prog.info? 9).map (fun i => (i.zero, i.size, i.bytes)) = some (some (.string ⟨#[]⟩), 1, 16) := by kernel_rfl
set_option maxHeartbeats 1000000 in
theorem toStringS_any (a : Option Addr) (xs : List ByteArray) (cap : Nat) (w : World) (hr : CRow w a (tv xs)) (hl : xs.length ≤ 1048576) :
    Calls Tw.prog 17 #[.slice a xs.length cap] w fun e w' => ∃ g, e = .returned (.slice (some ⟨g, 0, none⟩) xs.length xs.length) ∧ w.heap.size ≤ g ∧ WCells w' g (tv xs) ∧ Below w.heap.size w w' := by
  obtain ⟨i0, hi, hz0, hz1, hz2⟩ := info_parts infoTextG
  have HR : Hid (CRow w a (tv xs)) := hr
  clear hr
  go_enter Tw.func17, Tw.ntmps17
  go_wp2_with (at_make; refine wpList_make_full _ rfl _ _ 26 rfl w.heap.size 9 i0 _ 1 Tw.underlying26 hi hz0 hz1 .i64 .i64 _ _ xs.length rfl rfl (by omega) (by omega) ?b2 ?b3 ?b4 ?_)
  case b2 => rw [hz2]; omega
  case b3 => unfold maxLen; omega
  case b4 => omega
  intro wm hownm hgrm
  have hbm : Below w.heap.size w wm := (Below.refl _ _).grown hgrm (Nat.le_refl _) (fun j hj => by simp at hj)
  have hrow : WCells wm w.heap.size (tv (List.replicate xs.length ⟨#[]⟩)) := by
    have h := own_wcells hownm
    have e : (madeCells #[Value.string ⟨#[]⟩] (xs.length * 1)).toList = tv (List.replicate xs.length ⟨#[]⟩) := by rw [toList_madeCells_one]; simp [tv]
    rw [Nat.mul_one] at e
    first | (rw [e] at h; exact h) | (rw [Nat.mul_one, e] at h; exact h)
  have HRW : Shut (WCells wm w.heap.size (tv (List.replicate xs.length ⟨#[]⟩))) := ⟨hrow⟩
  clear hownm hgrm hrow
  go_wp2_with fail
  go_loopw [4] (fun i wr => ∃ (k : Nat) (ys : List ByteArray), i = .int .i64 k ∧ k ≤ xs.length ∧ ys.length = xs.length ∧ ys.take k = xs.take k ∧ Shut (WCells wr w.heap.size (tv ys)) ∧ Below w.heap.size w wr) (fun i _ => xs.length - (intOf i).toNat)
  case atStart => exact ⟨0, _, rfl, by omega, by simp, by simp, HRW, hbm⟩
  case round =>
    clear hbm
    obtain ⟨k, ys, rfl, hk, hyl, hyt, hw, hb⟩ := hrel
    have HY : Hid (ys.length = xs.length ∧ ys.take k = xs.take k) := ⟨hyl, hyt⟩
    have HB : Hid (Below w.heap.size w wr) := hb
    by_cases hlt : k < xs.length
    · obtain ⟨b, off, rfl, lb, hc⟩ := HR.out (by rw [tv_len]; omega)
      have d0 := hc k _ (tv_get xs k hlt)
      rw [← hb.cell (p := ⟨b, off + k, none⟩) lb] at d0
      obtain ⟨x, hx⟩ : ∃ x, x = xs.getD k ⟨#[]⟩ := ⟨_, rfl⟩
      rw [← hx] at d0
      have HXE : Hid (x = xs.getD k ⟨#[]⟩) := hx
      have k0 : (0 : Int) ≤ (k : Int) := by omega
      have k1 : (k : Int) < (xs.length : Int) := by omega
      obtain ⟨c0, z0⟩ := hw.out.2 k _ (tv_get ys k (by omega))
      have hset := hw.out.set k (.string x) (by rw [tv_len]; omega)
      rw [tv_set] at hset
      have HS : Shut (WCells (wr.setCell ⟨w.heap.size, k, none⟩ (.string x)) w.heap.size (tv (ys.set k x))) := ⟨hset⟩
      clear hc hx hset hb hyl hyt
      go_wp2_with fail
      all_goals
        refine ⟨⟨k + 1, ys.set k x, by go_num, by omega, by rw [List.length_set]; exact HY.out.1, ?_, ⟨HS.out⟩, HB.out.setCell (p := ⟨w.heap.size, k, none⟩) (Nat.le_refl _) _⟩, by simp [intOf]; omega⟩
        have hky : k < (ys.set k x).length := by rw [List.length_set]; have := HY.out.1; omega
        rw [List.take_succ_eq_append_getElem hky, List.take_succ_eq_append_getElem hlt, List.take_set_of_le (Nat.le_refl _), List.getElem_set_self, HY.out.2, HXE.out]
        simp [List.getD, hlt]
    · have e : k = xs.length := by omega
      have hlt' : ¬ (k : Int) < (xs.length : Int) := by omega
      have hfin : ys = xs := by
        have h := HY.out.2
        rw [e, List.take_length, List.take_of_length_le (by rw [HY.out.1]; exact Nat.le_refl _)] at h
        exact h
      have HF : Shut (WCells wr w.heap.size (tv xs)) := ⟨by rw [← hfin]; exact hw.out⟩
      clear hfin hw hb hyl hyt e
      go_wp2_with fail
      go_ret
      exact ⟨_, rfl, Nat.le_refl _, HF.out, HB.out⟩
theorem toStringS_val {w : World} {v : Value} {L : List ByteArray} {lo hi : Nat} (h : SSee w v L lo hi) (hf : TFit L) : Calls Tw.prog 17 #[v] w fun e w' => SPost L w e w' := by
  obtain ⟨a, cap, rfl, h1⟩ := h
  refine (toStringS_any a L cap w h1.crow (by unfold TFit at hf; omega)).mono ?_
  rintro e w' ⟨g, rfl, hg, hc, hb⟩
  exact ⟨_, rfl, ⟨_, _, rfl, Nat.le_refl _, .inr ⟨g, rfl, hg, hc.1, hc⟩⟩, hb⟩
theorem eqStringS_val {w : World} {v u : Value} {L : List ByteArray} {lo hi lo' hi' : Nat} (h : SAns w v L lo hi) (k : SAns w u L lo' hi') (hf : L.length ≤ 100000000) : Calls Tw.prog 12 #[v, u] w fun e w' => e = .returned (.bool true) ∧ Below w.heap.size w w' := by
  obtain ⟨a, cap, rfl, h1⟩ := h.srow
  obtain ⟨b, cap', rfl, h2⟩ := k.srow
  refine (eqStringS_any a b L L cap cap' w h1 h2 hf hf).mono ?_
  rintro e w' ⟨rfl, q, rfl⟩
  exact ⟨by unfold eqS; simp, ⟨rfl, rfl, rfl, Nat.le_refl _, fun _ _ => rfl⟩⟩
theorem markStringS_val {w : World} {v : Value} {L : List ByteArray} {lo hi : Nat} (k : Nat) (h : SAns w v L lo hi) (h0 : 0 < k) (hk : k + L.length ≤ 100000000) :
    Calls Tw.prog 13 #[v, .int .i64 k] w fun e w' => e = .returned (.int .i64 (k + L.length : Nat)) ∧ SAns w' v (marks k L.length) lo hi ∧ Turned w w' lo hi := by
  obtain ⟨a, cap, rfl, hc, h1⟩ := h
  rcases h1 with rfl | ⟨g, rfl, q1, q2, hm⟩
  · refine (markStringS_none a k cap w).mono ?_
    rintro e w' ⟨rfl, rfl⟩
    exact ⟨rfl, ⟨a, cap, rfl, Nat.zero_le _, .inl rfl⟩, Turned.refl _ _ _⟩
  · refine (markStringS_any g L k cap w (wrow_cells.2 hm) h0 hk hc).mono ?_
    rintro e w' ⟨rfl, hw, hg⟩
    exact ⟨rfl, ⟨_, cap, by rw [marks_len], by rw [marks_len]; exact hc, .inr ⟨g, rfl, q1, q2, wrow_cells.1 hw⟩⟩, Turned.of_grown hg q1 q2⟩
theorem heldStringS_val {w : World} {v : Value} {k n lo hi : Nat} (h : SAns w v (marks k n) lo hi) (h0 : 0 < k) (hk : k + n ≤ 100000000) :
    Calls Tw.prog 14 #[v, .int .i64 k] w fun e w' => e = .returned (.int .i64 (k + n : Nat)) ∧ Below w.heap.size w w' := by
  obtain ⟨a, cap, rfl, h1⟩ := h.srow
  rw [marks_len]
  exact heldStringS_any a k n cap w h1 h0 hk
end Go.Proofs.YtfhcpehfmecpjaaT
/- The walks of the models' CutUnits and JoinUnits. -/
namespace Go.Proofs.YtfhcpehfmecpjaaT
open Go.RowKit
attribute [local go_sem ↓] Go.wp_at_zero Go.wp_at_succ

/-- The bytes of a text that lie in a unit, in their order. -/
def unitB (k : Nat) (t : ByteArray) (n u : Nat) : ByteArray := ⟨(((List.range n).filter fun j => decide (unitAt k j = u)).map fun j => t.data.toList.getD j 0).toArray⟩
def cutL (k : Nat) (t : ByteArray) (n : Nat) : List ByteArray := (List.range k).map (unitB k t n)
def cutX (s : Int) (t : ByteArray) : List ByteArray × Bool := if schOk s = true ∧ t.size ≤ groupN s then (cutL (schK s) t t.size, true) else ([], false)
theorem cutL_len (k : Nat) (t : ByteArray) (n : Nat) : (cutL k t n).length = k := by simp [cutL]
theorem cutL_at {k : Nat} {t : ByteArray} {n u : Nat} (h : u < k) : (cutL k t n).getD u ⟨#[]⟩ = unitB k t n u := by
  unfold cutL
  rw [List.getD_eq_getElem?_getD, List.getElem?_map, List.getElem?_range h]; rfl
theorem unit_lt {k : Nat} (h : 0 < k) (i : Nat) : unitAt k i < k := Nat.mod_lt _ h
def byteB (c : UInt8) : ByteArray := ⟨#[c]⟩
theorem unitB_same {k : Nat} {t : ByteArray} {i u : Nat} (h : unitAt k i = u) : unitB k t (i + 1) u = ⟨(unitB k t i u).data ++ (byteB (t.data.toList.getD i 0)).data⟩ := by
  unfold unitB byteB
  rw [List.range_succ, List.filter_append]
  simp [h]
theorem unitB_other {k : Nat} {t : ByteArray} {i u : Nat} (h : unitAt k i ≠ u) : unitB k t (i + 1) u = unitB k t i u := by
  unfold unitB
  rw [List.range_succ, List.filter_append]
  simp [h]
theorem cutL_step {k : Nat} (hk : 0 < k) (t : ByteArray) (i : Nat) : (cutL k t i).set (unitAt k i) ⟨((cutL k t i).getD (unitAt k i) ⟨#[]⟩).data ++ (byteB (t.data.toList.getD i 0)).data⟩ = cutL k t (i + 1) := by
  rw [cutL_at (unit_lt hk i), ← unitB_same rfl]
  apply List.ext_getElem (by simp [cutL])
  intro u h1 h2
  rw [List.getElem_set]
  have hu : u < k := by simpa [cutL] using h2
  simp only [cutL, List.getElem_map, List.getElem_range]
  by_cases e : unitAt k i = u
  · rw [if_pos e, e]
  · rw [if_neg e, unitB_other e]
theorem cutL_0 (k : Nat) (t : ByteArray) : cutL k t 0 = List.replicate k ⟨#[]⟩ := by
  apply List.ext_getElem (by simp [cutL])
  intro u h1 h2
  simp [cutL, unitB]
theorem byte_is {t : ByteArray} {i : Nat} (h : i < t.size) : t.extract i (i + 1) = byteB (t.data.toList.getD i 0) := by
  apply ByteArray.ext
  have h' : i < t.data.size := h
  simp only [byteB, ByteArray.data_extract]
  apply Array.ext
  · simp; omega
  · intro j h1 h2
    have hj : j = 0 := by simp at h2; omega
    subst hj
    simp
    rw [Array.getElem?_eq_getElem h', Option.getD_some]
theorem byte_size {t : ByteArray} {i : Nat} (h : i < t.size) : (t.extract i (i + 1)).size = 1 := by rw [byte_is h]; rfl
theorem byte_cat {x : ByteArray} {t : ByteArray} {i : Nat} (h : i < t.size) : x ++ t.extract i (i + 1) = ⟨x.data ++ (byteB (t.data.toList.getD i 0)).data⟩ := by
  rw [byte_is h]
  apply ByteArray.ext
  simp
theorem unitB_size (k : Nat) (t : ByteArray) (n u : Nat) : (unitB k t n u).size ≤ n := by
  have h := List.length_filter_le (fun j => decide (unitAt k j = u)) (List.range n)
  simp only [List.length_range] at h
  show (List.map _ _).toArray.size ≤ n
  rw [List.size_toArray, List.length_map]
  exact h
theorem WCells.drawn {w : World} {g : Nat} {L : List Value} (h : WCells w g L) : WCells w.drew g L := h.below (Below.drew (Below.refl w.heap.size w)) h.1
/-- What such an answer is. -/
def TPost8 (R : List ByteArray × Bool) (w : World) (e : Ending) (w' : World) : Prop := ∃ v, e = .returned (.tuple #[v, .bool R.2]) ∧ SAns w' v R.1 w.heap.size w'.heap.size ∧ Below w.heap.size w w'
set_option maxRecDepth 100000 in
set_option maxHeartbeats 2000000 in
theorem specCutUnits (s : Int) (t : ByteArray) (w : World) (hts : t.size ≤ 9223372036854775807) : Calls Tw.prog 11 #[.int .i64 s, .string t] w fun e w' => TPost8 (cutX s t) w e w' := by
  obtain ⟨i0, hi0, hz0, hz1, hz2⟩ := info_parts infoTextG
  have HS := Shut.mk (fun W => specSchema s W)
  unfold SchPost at HS
  have HG := Shut.mk (fun W => specGroupSize s W)
  have hg32 := groupN_bounds s
  cases h : schOk s with
  | false =>
    have e0 : cutX s t = ([], false) := by unfold cutX; rw [if_neg (fun q => by rw [h] at q; cases q.1)]
    unfold TPost8
    rw [e0]
    rw [h] at HS
    clear h e0 hg32
    generalize schK s = k at *
    generalize schM s = m at *
    go_enter Tw.func11, Tw.ntmps11
    go_wp2_with fail
    refine (HS.out _).mono ?_
    rintro e w1 ⟨rfl, rfl⟩
    go_wp2_with fail
    go_ret2
    exact ⟨_, rfl, SAns.empty _ _ _ _ _, (Below.refl _ _).alloc (Nat.le_refl _) _⟩
  | true =>
    rw [h] at HS
    obtain ⟨b1, b2, _, _⟩ := sch_bounds h
    by_cases hz : t.size ≤ groupN s
    · have e0 : cutX s t = (cutL (schK s) t t.size, true) := by unfold cutX; rw [if_pos ⟨h, hz⟩]
      have HPL := Shut.mk (fun (i : Nat) (hi : i < t.size) W => specPlaceOf s (i : Int) W)
      have hpx : ∀ i : Nat, i < t.size → placeX s (i : Int) = (i / (schK s * 8), unitAt (schK s) i, placeIn (schK s) i) := fun i hi => by
        unfold placeX; rw [if_pos ⟨h, by omega, by omega⟩]; rfl
      have HPX := Shut.mk hpx
      unfold TPost8
      rw [e0]
      have hz' : ¬ (groupN s : Int) < (t.size : Int) := by omega
      clear h e0 hpx
      generalize schM s = m at *
      obtain ⟨k, hk⟩ : ∃ k, k = schK s := ⟨_, rfl⟩
      rw [← hk] at HS HPX b1 b2 ⊢
      generalize groupN s = S at *
      clear hk
      go_enter Tw.func11, Tw.ntmps11
      go_wp2_with fail
      refine (HS.out _).mono ?_
      rintro e w1 ⟨rfl, rfl⟩
      go_wp2_with fail
      refine (HG.out _).mono ?_
      rintro e w2 ⟨rfl, rfl⟩
      go_wp2_with (at_make; refine wpList_make_full _ rfl _ _ 26 rfl w2.heap.size 9 i0 _ 1 Tw.underlying26 hi0 hz0 hz1 .i64 .i64 _ _ k rfl rfl (by omega) (by omega) ?b2 ?b3 ?b4 ?_)
      case b2 => rw [hz2]; omega
      case b3 => unfold maxLen; omega
      case b4 => omega
      intro wm hownm hgrm
      have hbm : Below w2.heap.size w2 wm := (Below.refl _ _).grown hgrm (Nat.le_refl _) (fun j hj => by simp at hj)
      have hrow : WCells wm w2.heap.size (tv (cutL k t 0)) := by
        have h := own_wcells hownm
        have e : (madeCells #[Value.string ⟨#[]⟩] k).toList = tv (cutL k t 0) := by rw [toList_madeCells_one, cutL_0]; simp [tv]
        rw [e] at h
        exact h
      have HROW := Shut.mk hrow
      have HBM := Shut.mk hbm
      clear hownm hgrm hrow hbm
      go_wp2_with fail
      go_loopw [10] (fun ii wr => ∃ i : Nat, ii = .int .i64 (i : Nat) ∧ i ≤ t.size ∧ Shut (WCells wr w2.heap.size (tv (cutL k t i))) ∧ Shut (Below w2.heap.size w2 wr)) (fun ii _ => t.size - (intOf ii).toNat)
      case atStart => exact ⟨0, rfl, Nat.zero_le _, HROW, HBM⟩
      case round =>
        clear HROW HBM
        obtain ⟨i, rfl, hin, hrow, hbo⟩ := hrel
        obtain ⟨wo, rfl⟩ : ∃ wo, wo = wr := ⟨_, rfl⟩
        by_cases hlt : i < t.size
        · have hlt' : (i : Int) < (t.size : Int) := by omega
          have i0' : (0 : Int) ≤ (i : Int) := by omega
          have HP1 := Shut.mk (HPL.out i hlt)
          unfold PlacePost at HP1
          rw [HPX.out i hlt] at HP1
          have hul := unit_lt (show 0 < k by omega) i
          have hst : (cutL k t i).set (unitAt k i) ((cutL k t i).getD (unitAt k i) ⟨#[]⟩ ++ t.extract i (i + 1)) = cutL k t (i + 1) := by rw [byte_cat hlt]; exact cutL_step (by omega) t i
          have HCL := Shut.mk (fun (w5 : World) (hw5 : WCells w5 w2.heap.size (tv (cutL k t i))) => hw5.2 (unitAt k i) _ (tv_get _ (unitAt k i) (by rw [cutL_len]; exact hul)))
          have HST := Shut.mk (fun (w5 : World) (hw5 : WCells w5 w2.heap.size (tv (cutL k t i))) => by
            have q := hw5.set (unitAt k i) (.string ((cutL k t i).getD (unitAt k i) ⟨#[]⟩ ++ t.extract i (i + 1))) (by rw [tv_len, cutL_len]; exact hul)
            rw [tv_set, hst] at q
            exact q)
          have hxs : ((cutL k t i).getD (unitAt k i) ⟨#[]⟩).size ≤ 32 := by rw [cutL_at hul]; exact Nat.le_trans (unitB_size k t i _) (by omega)
          have hys := byte_size hlt
          clear hst
          generalize (cutL k t i).getD (unitAt k i) ⟨#[]⟩ = x at *
          generalize unitAt k i = u at *
          generalize placeIn k i = pl at *
          generalize i / (k * 8) = gq at *
          go_wp2_with fail
          refine (HP1.out _).mono ?_
          rintro e w5 ⟨rfl, hb5⟩
          have hrow5 := hrow.out.below hb5 hrow.out.1
          obtain ⟨c0, z0⟩ := HCL.out w5 hrow5
          have HS5 := Shut.mk (HST.out w5 hrow5)
          have HB5 := Shut.mk (hbo.out.trans (hb5.mono hbo.out.size))
          have u0 : (0 : Int) ≤ (u : Int) := by omega
          have u1 : (u : Int) < (k : Int) := by omega
          clear hb5 hrow5 hrow hbo HCL HST HP1
          go_wp2_with fail
          go_region
          all_goals go_wp2_with fail
          all_goals exact ⟨⟨i + 1, by go_num, by omega, ⟨HS5.out.drawn⟩, ⟨Below.drew (HB5.out.setCell (p := ⟨w2.heap.size, u, none⟩) (Nat.le_refl _) _)⟩⟩, by simp [intOf]; omega⟩
        · have e : i = t.size := by omega
          subst e
          have hlt' : ¬ (t.size : Int) < (t.size : Int) := by omega
          have HF : Shut (SAns wo (.slice (some ⟨w2.heap.size, 0, none⟩) k k) (cutL k t t.size) w2.heap.size wo.heap.size) := ⟨⟨_, k, by rw [cutL_len], by rw [cutL_len]; exact Nat.le_refl _, .inr ⟨_, rfl, Nat.le_refl _, hrow.out.1, hrow.out⟩⟩⟩
          clear hrow
          go_wp2_with fail
          go_ret2
          exact ⟨_, rfl, HF.out, hbo.out⟩
    · have e0 : cutX s t = ([], false) := by unfold cutX; rw [if_neg (fun q => hz q.2)]
      unfold TPost8
      rw [e0]
      have hz' : (groupN s : Int) < (t.size : Int) := by omega
      clear h e0 hz
      generalize schK s = k at *
      generalize schM s = m at *
      generalize groupN s = S at *
      go_enter Tw.func11, Tw.ntmps11
      go_wp2_with fail
      refine (HS.out _).mono ?_
      rintro e w1 ⟨rfl, rfl⟩
      go_wp2_with fail
      refine (HG.out _).mono ?_
      rintro e w2 ⟨rfl, rfl⟩
      go_wp2_with fail
      go_ret2
      exact ⟨_, rfl, SAns.empty _ _ _ _ _, (Below.refl _ _).alloc (Nat.le_refl _) _⟩
end Go.Proofs.YtfhcpehfmecpjaaT
/- Plain facts on hexadecimal figures. -/
namespace Go.Proofs.YtfhcpehfmecpjaaT.W
open Go.PlainAid (bt)

/-- The figure of a number below 16. -/
def hfI (x : Int) : Int := if x < 10 then 48 + x else 87 + x
theorem hfI_bd (x : Int) (h0 : 0 ≤ x) (h1 : x < 16) : 0 ≤ hfI x ∧ hfI x < 256 := by unfold hfI; split <;> omega
def hf (n : Nat) : UInt8 := UInt8.ofNat (hfI n).toNat
theorem hf_toNat (n : Nat) (h : n < 16) : ((hf n).toNat : Int) = hfI n := by
  have := hfI_bd n (by omega) (by omega)
  unfold hf; simp; omega
def hexL (l : List UInt8) : List UInt8 := l.flatMap fun b => [hf (b.toNat / 16), hf (b.toNat % 16)]
theorem hexL_len (l : List UInt8) : (hexL l).length = 2 * l.length := by
  induction l with
  | nil => rfl
  | cons b l ih => simp [hexL] at ih ⊢; omega
theorem hexL_snoc (l : List UInt8) (b : UInt8) : hexL (l ++ [b]) = hexL l ++ [hf (b.toNat / 16), hf (b.toNat % 16)] := by simp [hexL]

/-- The first k bytes of a text. -/
def firstK (s : ByteArray) (k : Nat) : List UInt8 := s.data.toList.take k
theorem firstK_len (s : ByteArray) (k : Nat) (h : k ≤ s.size) : (firstK s k).length = k := by
  have e : s.data.size = s.size := rfl
  simp [firstK]; omega
theorem firstK_all (s : ByteArray) (k : Nat) (h : s.size ≤ k) : firstK s k = s.data.toList := by
  have e : s.data.size = s.size := rfl
  unfold firstK; exact List.take_of_length_le (by simp; omega)
theorem firstK_step (s : ByteArray) (k : Nat) (h : k < s.size) : ∃ b : UInt8, firstK s (k + 1) = firstK s k ++ [b] ∧ bt s k = (b.toNat : Int) := by
  refine ⟨s[k], ?_, ?_⟩
  · unfold firstK; rw [List.take_succ_eq_append_getElem (by simpa using h)]; rfl
  · unfold bt; rw [dif_pos h]
end Go.Proofs.YtfhcpehfmecpjaaT.W
namespace Go.Proofs.YtfhcpehfmecpjaaT
open Go.RowKit
open Go.PlainAid (bt)
theorem bt_words (s : ByteArray) (k : Nat) : IntKind.i64.wrap (bt s k) = bt s k ∧ (bt s k).tdiv 16 = bt s k / 16 ∧ IntKind.i64.wrap (bt s k / 16) = bt s k / 16 ∧ (bt s k).tmod 16 = bt s k % 16 ∧ IntKind.i64.wrap (bt s k % 16) = bt s k % 16 := by
  have b0 := Go.PlainAid.bt_nonneg s k
  have b1 := Go.PlainAid.bt_le s k
  refine ⟨IntWalk.i64_in _ ⟨by omega, by omega⟩, Int.tdiv_eq_ediv_of_nonneg b0, IntWalk.i64_in _ ⟨by omega, by omega⟩, Int.tmod_eq_emod_of_nonneg b0, IntWalk.i64_in _ ⟨by omega, by omega⟩⟩
theorem bt_words8 (s : ByteArray) (k : Nat) : IntKind.u8.wrap (bt s k / 16) = bt s k / 16 ∧ IntKind.u8.wrap (bt s k % 16) = bt s k % 16 := by
  have b0 := Go.PlainAid.bt_nonneg s k
  have b1 := Go.PlainAid.bt_le s k
  exact ⟨IntWalk.u8_in _ ⟨by omega, by omega⟩, IntWalk.u8_in _ ⟨by omega, by omega⟩⟩
/-- A byte of a string. -/
theorem index_str (s : ByteArray) (k : Nat) (h : k < s.size) (w : World) :
    (Instr.index 9 (.string s) (.int .i64 (k : Int))).run Tw.prog w = .ok (.int .u8 (bt s k)) w := by
  have hb := Go.PlainAid.get_bt s k h
  rw [run_index_string _ 9 s .i64 k Tw.underlying9, dif_pos ⟨by omega, by omega⟩, ← hb]
  rfl
/-- Behind the two figures of byte k. -/
theorem hex_own {B k : Nat} {s : ByteArray} {w1 : World} {v' : Value} {x y : Int} (hk : k < s.size) (hx : x = W.hfI (bt s k / 16)) (hy : y = W.hfI (bt s k % 16))
    (h : w1.ownsRow B 5 1 v' (2 * k + 2) (bv (W.hexL (W.firstK s k)) ++ [.int .u8 x, .int .u8 y])) :
    w1.ownsRow B 5 1 v' (2 * (k + 1)) (bv (W.hexL (W.firstK s (k + 1)))) := by
  obtain ⟨b, hb, e⟩ := W.firstK_step s k hk
  have hlt := b.toNat_lt
  have e1 : Value.int .u8 x = .int .u8 ((W.hf (b.toNat / 16)).toNat : Int) := by
    rw [W.hf_toNat _ (by omega), hx, e]; congr 2
  have e2 : Value.int .u8 y = .int .u8 ((W.hf (b.toNat % 16)).toNat : Int) := by
    rw [W.hf_toNat _ (by omega), hy, e]; congr 2
  have e3 : bv (W.hexL (W.firstK s k)) ++ [.int .u8 x, .int .u8 y] = bv (W.hexL (W.firstK s (k + 1))) := by
    rw [hb, W.hexL_snoc, e1, e2]; simp [bv]
  rw [e3] at h
  exact h
end Go.Proofs.YtfhcpehfmecpjaaT
/- The walk of the model's JoinUnits. -/
namespace Go.Proofs.YtfhcpehfmecpjaaT
open Go.RowKit
attribute [local go_sem ↓] Go.wp_at_zero Go.wp_at_succ

def joinAt (k : Nat) (U : List ByteArray) (i : Nat) : UInt8 := (U.getD (unitAt k i) ⟨#[]⟩).data.toList.getD (placeIn k i) 0
def joinL (k : Nat) (U : List ByteArray) (n : Nat) : List UInt8 := (List.range n).map (joinAt k U)
def joinX (s : Int) (U : List ByteArray) (n : Int) : ByteArray × Bool := if schOk s = true ∧ U.length = schK s ∧ 0 ≤ n ∧ n ≤ (groupN s : Int) then (⟨(joinL (schK s) U n.toNat).toArray⟩, true) else (⟨#[]⟩, false)
theorem joinX_no {s : Int} {U : List ByteArray} {n : Int} (h : ¬ (schOk s = true ∧ U.length = schK s ∧ 0 ≤ n ∧ n ≤ (groupN s : Int))) : joinX s U n = (⟨#[]⟩, false) := if_neg h
def JoinPost (R : ByteArray × Bool) (w : World) (e : Ending) (w' : World) : Prop := e = .returned (.tuple #[.string R.1, .bool R.2]) ∧ Below w.heap.size w w'
theorem joinL_len (k : Nat) (U : List ByteArray) (n : Nat) : (joinL k U n).length = n := by simp [joinL]
theorem joinL_succ (k : Nat) (U : List ByteArray) (n : Nat) : bv (joinL k U (n + 1)) = bv (joinL k U n) ++ [.int .u8 ((joinAt k U n).toNat : Int)] := by
  unfold joinL; rw [List.range_succ, List.map_append]; simp [bv]
theorem get_byte (s : ByteArray) (k : Nat) (h : k < s.size) : Go.PlainAid.bt s k = ((s.data.toList.getD k 0).toNat : Int) := by
  unfold Go.PlainAid.bt
  rw [dif_pos h]
  have : s.data.toList.getD k 0 = s[k] := by
    have hk : k < s.data.size := h
    rw [List.getD_eq_getElem?_getD, Array.getElem?_toList, Array.getElem?_eq_getElem hk]
    rfl
  rw [this]
theorem get_none (s : ByteArray) (k : Nat) (h : ¬ k < s.size) : s.data.toList.getD k 0 = 0 := by
  have hk : s.data.toList.length ≤ k := by simpa using h
  rw [List.getD_eq_getElem?_getD, List.getElem?_eq_none hk]; rfl
theorem units_cells {w : World} {a : Option Addr} {L : List ByteArray} {lo hi : Nat} (h : RRow w a (tv L) lo hi) (hp : 0 < L.length) : ∃ b off, a = some ⟨b, off, none⟩ ∧ b < w.heap.size ∧ ∀ j, j < L.length → w.cell? ⟨b, off + j, none⟩ = some (.string (L.getD j ⟨#[]⟩)) := by
  obtain ⟨b, off, e, _, _, hb, hc⟩ := h (by rw [tv_len]; exact hp)
  exact ⟨b, off, e, hb, fun j hj => hc j _ (tv_get L j hj)⟩
set_option maxRecDepth 100000 in
set_option maxHeartbeats 2000000 in
theorem specJoin_walk (s : Int) (U : List ByteArray) (N k b2 o2 cap2 : Nat) (w : World) (hok : schOk s = true) (hk : schK s = k) (hul : U.length = k) (hN : N ≤ groupN s) (hU : b2 < w.heap.size ∧ ∀ j, j < k → w.cell? ⟨b2, o2 + j, none⟩ = some (.string (U.getD j ⟨#[]⟩))) :
    Calls Tw.prog 16 #[.int .i64 s, .slice (some ⟨b2, o2, none⟩) k cap2, .int .i64 (N : Int)] w fun e w' => JoinPost (joinX s U (N : Int)) w e w' := by
  obtain ⟨i0, hi0, hz0, hz1, hz2⟩ := info_parts Tw.info5
  obtain ⟨c1, c2, _, _⟩ := sch_bounds hok
  have HS := Shut.mk (fun W => specSchema s W)
  unfold SchPost at HS
  have HG := Shut.mk (fun W => specGroupSize s W)
  have hg32 := groupN_bounds s
  have hin : (decide ((0 : Int) ≤ (N : Int)) && decide ((N : Int) ≤ (groupN s : Int))) = true := by simp; omega
  have HIN := Shut.mk (fun W => isIn (N : Int) 0 (groupN s : Int) W true hin)
  have e0 : joinX s U (N : Int) = (⟨(joinL (schK s) U N).toArray⟩, true) := by unfold joinX; rw [if_pos ⟨hok, by rw [hul, hk], by omega, by omega⟩]; rfl
  have HPL := Shut.mk (fun (i : Nat) W => specPlaceOf s (i : Int) W)
  have hpx : ∀ i : Nat, i < N → placeX s (i : Int) = (i / (schK s * 8), unitAt (schK s) i, placeIn (schK s) i) := fun i hi => by
    unfold placeX; rw [if_pos ⟨hok, by omega, by omega⟩]; rfl
  have HPX := Shut.mk hpx
  have HU := Shut.mk hU
  rw [hok] at HS
  unfold JoinPost
  rw [e0]
  rw [hk] at HS HPX c1 c2 ⊢
  have hkk : ((k : Int) != (k : Int)) = false := by simp
  have hal : Below w.heap.size w (w.alloc (.cells #[] 5)) := (Below.refl _ _).alloc (Nat.le_refl _) _
  have HAL := Shut.mk hal
  have HO : Shut ((w.alloc (.cells #[] 5)).ownsRow w.heap.size 5 1 (.slice (some ⟨w.heap.size, 0, none⟩) 0 0) 0 (bv (joinL k U 0))) := ⟨World.ownsRow_made w #[] 0 (Nat.le_refl _) (by decide) rfl⟩
  clear hok hk hul hU hin e0 hpx hal
  generalize schM s = m at *
  generalize groupN s = S at *
  go_enter Tw.func16, Tw.ntmps16
  go_wp2_with fail
  refine (HS.out _).mono ?_
  rintro e w1 ⟨rfl, rfl⟩
  go_wp2_with fail
  refine (HG.out _).mono ?_
  rintro e w2 ⟨rfl, rfl⟩
  go_wp2_with fail
  refine (HIN.out _).mono ?_
  rintro e w3 ⟨rfl, rfl⟩
  go_wp2_with fail
  go_loopw [11, 12] (fun v ii wr => ∃ (i : Nat) (vv : Value), vv = v ∧ ii = .int .i64 (i : Nat) ∧ i ≤ N ∧ Shut (wr.ownsRow w3.heap.size 5 1 vv i (bv (joinL k U i))) ∧ Shut (Below w3.heap.size w3 wr)) (fun _ ii _ => N - (intOf ii).toNat)
  case atStart => exact ⟨0, _, rfl, rfl, Nat.zero_le _, HO, HAL⟩
  case round =>
    clear HO HAL
    obtain ⟨i, v, rfl, rfl, hin, hown, hb⟩ := hrel
    obtain ⟨wo, rfl⟩ : ∃ wo, wo = wr := ⟨_, rfl⟩
    by_cases hlt : i < N
    · have hlt' : (i : Int) < (N : Int) := by omega
      have i0' : (0 : Int) ≤ (i : Int) := by omega
      have HP1 := Shut.mk (HPL.out i)
      unfold PlacePost at HP1
      rw [HPX.out i hlt] at HP1
      have huk := unit_lt (show 0 < k by omega) i
      have hst := joinL_succ k U i
      have hjat : joinAt k U i = (U.getD (unitAt k i) ⟨#[]⟩).data.toList.getD (placeIn k i) 0 := rfl
      have HCU := Shut.mk (HU.out.2 (unitAt k i) huk)
      have hpl : placeIn k i ≤ 40 := by
        have h1 : i % (k * 8) < k * 8 := Nat.mod_lt _ (by omega)
        have h2 : i % (k * 8) / 4 / k ≤ 8 := Nat.le_trans (Nat.div_le_self _ _) (by omega)
        unfold placeIn; omega
      generalize U.getD (unitAt k i) ⟨#[]⟩ = x at *
      generalize unitAt k i = u at *
      generalize placeIn k i = pl at *
      generalize i / (k * 8) = gq at *
      have u0 : (0 : Int) ≤ (u : Int) := by omega
      have u1 : (u : Int) < (k : Int) := by omega
      have p0 : (0 : Int) ≤ (pl : Int) := by omega
      have HST := Shut.mk hst
      have HJ := Shut.mk hjat
      clear hst hjat
      go_wp2_with fail
      refine (HP1.out _).mono ?_
      rintro e w5 ⟨rfl, hb5⟩
      have hown5 := hown.out.kept (row := none) ⟨hb5.os, hb5.tape, hb5.output, hb5.size, fun k hk _ => hb5.block k hk⟩ (Classical.em _)
      have HB5 := Shut.mk (hb.out.trans (hb5.mono hb.out.size))
      have d := (HB5.out.cell (p := ⟨b2, o2 + u, none⟩) HU.out.1).trans HCU.out
      have hs5 := HB5.out.size
      clear hb5 hown hb HP1 HCU
      by_cases hpx : pl < x.size
      · have hpx' : (pl : Int) < (x.size : Int) := by omega
        have hix := index_str x pl hpx
        rw [get_byte x pl hpx, ← HJ.out] at hix
        generalize joinAt k U i = c at *
        go_wp2_with (at_builtin; refine wpList_append_own _ rfl _ _ 22 rfl w3.heap.size 5 i0 (.int .u8 0) 1 1 Tw.underlying22 hi0 hz0 hz1 hz2 rfl (by decide) _ _ _ rfl (hown5.alloc _) ⟨w5.heap.size, 0, none⟩ 1 1 [.int .u8 (c.toNat : Int)] rfl rfl (cell_one_new _ _ _) ?c2 ?c3 ?c4 ?c5 ?_)
        case c2 => intro u hu; simp at hu; subst hu; rfl
        case c3 => unfold maxLen; omega
        case c4 => omega
        case c5 => simp; omega
        intro v' w6 hown' hgrow _
        rw [← HST.out] at hown'
        have Q1 := Shut.mk hown'
        have Q2 := Shut.mk ((HB5.out.alloc hs5 (.cells #[.int .u8 (c.toNat : Int)] 5)).grown hgrow (by simp; omega) (fun q hq => (hown5.lt q hq).1))
        clear hown' hgrow hown5
        go_wp2_with fail
        exact ⟨⟨i + 1, v', rfl, by go_num, by omega, Q1, Q2⟩, by simp [intOf]; omega⟩
      · have hpx' : ¬ (pl : Int) < (x.size : Int) := by omega
        have hpx2 : (x.size : Int) ≤ (pl : Int) := by omega
        have hc0 : joinAt k U i = 0 := by rw [HJ.out]; exact get_none x pl hpx
        rw [hc0] at HST
        clear hc0 HJ
        go_wp2_with (at_builtin; refine wpList_append_own _ rfl _ _ 22 rfl w3.heap.size 5 i0 (.int .u8 0) 1 1 Tw.underlying22 hi0 hz0 hz1 hz2 rfl (by decide) _ _ _ rfl (hown5.alloc _) ⟨w5.heap.size, 0, none⟩ 1 1 [.int .u8 0] rfl rfl (cell_one_new _ _ _) ?c2 ?c3 ?c4 ?c5 ?_)
        case c2 => intro u hu; simp at hu; subst hu; rfl
        case c3 => unfold maxLen; omega
        case c4 => omega
        case c5 => simp; omega
        intro v' w6 hown' hgrow _
        have Q1 : Shut (w6.ownsRow w3.heap.size 5 1 v' (i + 1) (bv (joinL k U (i + 1)))) := ⟨by rw [HST.out]; exact hown'⟩
        have Q2 := Shut.mk ((HB5.out.alloc hs5 (.cells #[.int .u8 0] 5)).grown hgrow (by simp; omega) (fun q hq => (hown5.lt q hq).1))
        clear hown' hgrow hown5
        go_wp2_with fail
        exact ⟨⟨i + 1, v', rfl, by go_num, by omega, Q1, Q2⟩, by simp [intOf]; omega⟩
    · have e : i = N := by omega
      subst e
      have hlt' : ¬ (i : Int) < (i : Int) := by omega
      have hcv := own_string (l := joinL k U i) (by rw [joinL_len]; exact hown.out)
      clear hown
      go_wp2_with fail
      go_ret2
      exact ⟨rfl, hb.out⟩
/-- JoinUnits' model, at every argument. -/
theorem specJoinUnits {w : World} {u : Value} {U : List ByteArray} {lo hi : Nat} (s n : Int) (hu : SSee w u U lo hi) (hf : TFit U) : Calls Tw.prog 16 #[.int .i64 s, u, .int .i64 n] w fun e w' => JoinPost (joinX s U n) w e w' := by
  obtain ⟨a2, cap2, rfl, hm2⟩ := hu
  have hlf : U.length ≤ 1048576 := by unfold TFit at hf; omega
  have HS := Shut.mk (fun W => specSchema s W)
  unfold SchPost at HS
  cases h : schOk s with
  | false =>
    unfold JoinPost
    rw [joinX_no (fun q => by rw [h] at q; cases q.1)]
    rw [h] at HS
    clear h hm2 hf
    generalize schK s = k at *
    generalize schM s = m at *
    go_enter Tw.func16, Tw.ntmps16
    go_wp2_with fail
    refine (HS.out _).mono ?_
    rintro e w1 ⟨rfl, rfl⟩
    go_wp2_with fail
    go_ret2
    exact ⟨rfl, Below.refl _ _⟩
  | true =>
    obtain ⟨b1, b2, _, _⟩ := sch_bounds h
    by_cases hl : U.length = schK s
    · by_cases hn : 0 ≤ n ∧ n ≤ (groupN s : Int)
      · obtain ⟨b, off, rfl, lb, hc⟩ := units_cells hm2 (by omega)
        obtain ⟨N, rfl⟩ := Int.eq_ofNat_of_zero_le hn.1
        rw [hl]
        exact specJoin_walk s U N (schK s) b off cap2 w h rfl hl (by omega) ⟨lb, fun j hj => hc j (by omega)⟩
      · unfold JoinPost
        rw [joinX_no (fun q => hn q.2.2)]
        have hin : (decide ((0 : Int) ≤ n) && decide (n ≤ (groupN s : Int))) = false := by simp only [Bool.and_eq_false_iff, decide_eq_false_iff_not]; omega
        have HIN := Shut.mk (fun W => isIn n 0 (groupN s : Int) W false hin)
        have HG := Shut.mk (fun W => specGroupSize s W)
        rw [h] at HS
        rw [hl]
        have hkk : ((schK s : Int) != (schK s : Int)) = false := by simp
        clear h hm2 hf hn hin hl
        generalize schK s = k at *
        generalize schM s = m at *
        generalize groupN s = S at *
        go_enter Tw.func16, Tw.ntmps16
        go_wp2_with fail
        refine (HS.out _).mono ?_
        rintro e w1 ⟨rfl, rfl⟩
        go_wp2_with fail
        refine (HG.out _).mono ?_
        rintro e w2 ⟨rfl, rfl⟩
        go_wp2_with fail
        refine (HIN.out _).mono ?_
        rintro e w3 ⟨rfl, rfl⟩
        go_wp2_with fail
        go_ret2
        exact ⟨rfl, Below.refl _ _⟩
    · unfold JoinPost
      rw [joinX_no (fun q => hl q.2.1)]
      have hne : ((U.length : Int) != (schK s : Int)) = true := by rw [bne_iff_ne]; omega
      rw [h] at HS
      clear h hm2 hf hl
      generalize schK s = k at *
      generalize schM s = m at *
      go_enter Tw.func16, Tw.ntmps16
      go_wp2_with fail
      refine (HS.out _).mono ?_
      rintro e w1 ⟨rfl, rfl⟩
      go_wp2_with fail
      go_ret2
      exact ⟨rfl, Below.refl _ _⟩
end Go.Proofs.YtfhcpehfmecpjaaT
/- Rows of rows of numbers: the laws' own copies, sizes, comparisons and marks. -/
namespace Go.Proofs.YtfhcpehfmecpjaaT
open Go.RowKit
attribute [local go_sem ↓] Go.wp_at_zero Go.wp_at_succ

theorem infoRow : (Tw.prog.info? 31).map (fun i => (i.zero, i.size, i.bytes)) = some (some (.slice none 0 0), 1, 24) := by kernel_rfl
/-- Where the copy of a row of rows stands. -/
structure TI (w wr : World) (ss : List SR) (ts : List SR) : Prop where
  rweq : rws ts = rws (ss.take ts.length)
  out : WCells wr w.heap.size (svs ts ++ List.replicate (ss.length - ts.length) (.slice none 0 0))
  rows : ∀ s ∈ ts, ∃ b, s.loc = some ⟨b, 0, none⟩ ∧ w.heap.size ≤ b ∧ b < wr.heap.size ∧ b ≠ w.heap.size ∧ WCells wr b (ics s.row) ∧ s.row.length ≤ s.cap
  apart : (ts.map SR.loc).Nodup
  bel : Below w.heap.size w wr
theorem set_mid (A B : List Value) (x y : Value) (k : Nat) (h : A.length = k) : (A ++ x :: B).set k y = A ++ y :: B := by
  subst h
  rw [List.set_append_right _ _ (Nat.le_refl _)]
  simp
theorem TI.next {w wr w1 : World} {ss ts : List SR} {g1 : Nat} {row : List Int} {n : Nat} (h : TI w wr ss ts) (hk : ts.length < ss.length) (hrow : (ss[ts.length]).row = row) (hn : n = row.length) (hw : w.heap.size < wr.heap.size)
    (hg1 : wr.heap.size ≤ g1) (hc : WCells w1 g1 (ics row)) (hb : Below wr.heap.size wr w1) : TI w (w1.setCell ⟨w.heap.size, ts.length, none⟩ (.slice (some ⟨g1, 0, none⟩) n n)) ss (ts ++ [SR.mk (some ⟨g1, 0, none⟩) row row.length]) := by
  subst hn
  have hne : g1 ≠ w.heap.size := by omega
  have hsz : (w1.setCell ⟨w.heap.size, ts.length, none⟩ (.slice (some ⟨g1, 0, none⟩) row.length row.length)).heap.size = w1.heap.size := by simp [World.setCell]
  have hgs : w1.grownBy (w1.setCell ⟨w.heap.size, ts.length, none⟩ (.slice (some ⟨g1, 0, none⟩) row.length row.length)) (some w.heap.size) := gb_set' _ _ _ _
  refine ⟨?_, ?_, ?_, ?_, ?_⟩
  · rw [rws_snoc, h.rweq, List.length_append, List.length_singleton, List.take_succ_eq_append_getElem hk, rws_snoc, hrow]
  · have o := (h.out.below hb h.out.1).set ts.length (.slice (some ⟨g1, 0, none⟩) row.length row.length) (by rw [List.length_append, svs_len, List.length_replicate]; omega)
    obtain ⟨m, hm⟩ : ∃ m, ss.length - ts.length = m + 1 := ⟨ss.length - ts.length - 1, by omega⟩
    rw [hm, List.replicate_succ, set_mid _ _ _ _ _ (svs_len ts)] at o
    have e : svs (ts ++ [SR.mk (some ⟨g1, 0, none⟩) row row.length]) ++ List.replicate (ss.length - (ts ++ [SR.mk (some ⟨g1, 0, none⟩) row row.length]).length) (.slice none 0 0) = svs ts ++ .slice (some ⟨g1, 0, none⟩) row.length row.length :: List.replicate m (.slice none 0 0) := by
      rw [List.length_append, List.length_singleton, show ss.length - (ts.length + 1) = m by omega]
      simp [svs, srv]
    rw [e]
    exact o
  · intro s hs
    rcases List.mem_append.1 hs with h1 | h1
    · obtain ⟨b, e, q1, q2, q3, q4, q5⟩ := h.rows s h1
      exact ⟨b, e, q1, by rw [hsz]; exact Nat.lt_of_lt_of_le q2 hb.size, q3, (q4.below hb q4.1).apart hgs q3, q5⟩
    · simp at h1
      subst h1
      exact ⟨g1, rfl, by omega, by rw [hsz]; exact hc.1, hne, hc.apart hgs hne, Nat.le_refl _⟩
  · rw [List.map_append, List.nodup_append]
    refine ⟨h.apart, by simp, fun l hl l' hl' => ?_⟩
    obtain ⟨s, hs, rfl⟩ := List.mem_map.1 hl
    simp only [List.map_cons, List.map_nil, List.mem_singleton] at hl'
    subst hl'
    obtain ⟨b, e, _, q2, _⟩ := h.rows s hs
    rw [e]
    intro e2
    have e4 : b = g1 := congrArg Addr.block (Option.some.inj e2)
    omega
  · exact (h.bel.trans (hb.mono h.bel.size)).setCell (p := ⟨w.heap.size, ts.length, none⟩) (Nat.le_refl _) _
theorem TI.fin {w wr : World} {ss ts : List SR} (h : TI w wr ss ts) (hl : ts.length = ss.length) : rws ts = rws ss ∧ MW wr w.heap.size ts w.heap.size wr.heap.size := by
  refine ⟨by rw [h.rweq, hl, List.take_of_length_le (Nat.le_refl _)], ?_, Nat.le_refl _, h.out.1, h.rows, h.apart⟩
  have := h.out
  rwa [hl, Nat.sub_self, List.replicate_zero, List.append_nil] at this
/-- What a copy of a row of rows is. -/
def ToRows (ss : List SR) (w : World) (e : Ending) (w' : World) : Prop :=
  ∃ g ts, e = .returned (.slice (some ⟨g, 0, none⟩) ss.length ss.length) ∧ List.length (α := SR) ts = ss.length ∧ rws ts = rws ss ∧ MW w' g ts w.heap.size w'.heap.size ∧ Below w.heap.size w w'
/-- The size of rows of numbers, as the laws count it. -/
def msum : List SR → Nat
  | [] => 0
  | s :: ss => s.row.length + msum ss
theorem msum_take (ss : List SR) (k : Nat) (h : k < ss.length) : msum (ss.take (k + 1)) = msum (ss.take k) + ss[k].row.length := by
  induction ss generalizing k with
  | nil => simp at h
  | cons s ss ih =>
    cases k with
    | zero => simp [msum]
    | succ k =>
      have := ih k (by simpa using h)
      simp only [List.take_succ_cons, msum, this, List.getElem_cons_succ]
      omega
theorem msum_le (ss : List SR) (k : Nat) : msum (ss.take k) ≤ msum ss := by
  induction ss generalizing k with
  | nil => simp [msum]
  | cons s ss ih =>
    cases k with
    | zero => simp [msum]
    | succ k => have := ih k; simp only [List.take_succ_cons, msum]; omega
theorem msum_mem {ss : List SR} {s : SR} (h : s ∈ ss) : s.row.length ≤ msum ss := by
  induction ss with
  | nil => simp at h
  | cons t ss ih =>
    rcases List.mem_cons.1 h with rfl | h
    · simp only [msum]; omega
    · have := ih h; simp only [msum]; omega
/-- What is left of the room: or a number below 0. -/
def SzRows (left : Int) (n : Nat) (w : World) (e : Ending) (w' : World) : Prop := ∃ r : Int, e = .returned (.int .i64 r) ∧ w' = w ∧ ((n : Int) ≤ left → r = left - n) ∧ (left < n → r < 0)
end Go.Proofs.YtfhcpehfmecpjaaT
/- Rows of rows of numbers: the laws' own comparisons, marks that are laid into one, and found again. -/
namespace Go.Proofs.YtfhcpehfmecpjaaT
open Go.RowKit
attribute [local go_sem ↓] Go.wp_at_zero Go.wp_at_succ

end Go.Proofs.YtfhcpehfmecpjaaT
/- Rows of numbers as values: their comparison, marks that are laid and found again. -/
namespace Go.Proofs.YtfhcpehfmecpjaaT
open Go.RowKit

theorem spansX_len (s n : Int) : (spansX s n).length ≤ 1001 := by
  unfold spansX
  split
  · rename_i h
    unfold spanL
    rw [List.length_append, List.length_replicate, List.length_singleton]
    have := Nat.div_le_self (n.toNat - 1) (groupN s)
    omega
  · exact Nat.zero_le _
end Go.Proofs.YtfhcpehfmecpjaaT
/- The size of a row of texts. -/
namespace Go.Proofs.YtfhcpehfmecpjaaT
open Go.RowKit
attribute [local go_sem ↓] Go.wp_at_zero Go.wp_at_succ

set_option maxHeartbeats 1000000 in
theorem szStringS_any (a : Option Addr) (L : List ByteArray) (cap : Nat) (left : Int) (w : World) (hr : CRow w a (tv L)) (h0 : 0 ≤ left) (h1 : left ≤ 1048576) (hl : L.length ≤ 9223372036854775807) (hrl : ∀ s ∈ L, s.size ≤ 9223372036854775807) :
    Calls Tw.prog 15 #[.slice a L.length cap, .int .i64 left] w fun e w' => SzRows left (L.length + tsum L) w e w' := by
  have hw : IntKind.i64.wrap (left - (L.length : Int)) = left - (L.length : Int) := IntWalk.i64_in _ ⟨by omega, by omega⟩
  have HRL : Hid (∀ s ∈ L, s.size ≤ 9223372036854775807) := hrl
  have HR : Hid (CRow w a (tv L)) := hr
  clear hrl hr
  by_cases h : (L.length : Int) ≤ left
  · have h' : ¬ left - (L.length : Int) < 0 := by omega
    go_enter Tw.func15, Tw.ntmps15
    go_wp2_with fail
    go_loopw [1, 5] (fun c i wr => ∃ (k : Nat) (r : Int), i = .int .i64 k ∧ c = .int .i64 r ∧ k ≤ L.length ∧ r = left - L.length - tsum (L.take k) ∧ 0 ≤ r ∧ wr = w) (fun _ i _ => L.length - (intOf i).toNat)
    case atStart => exact ⟨0, left - L.length, rfl, rfl, by omega, by simp [tsum], by omega, rfl⟩
    case round =>
      obtain ⟨k, r, rfl, rfl, hk, hre, hr0, rfl⟩ := hrel
      have HRE : Hid (r = left - L.length - tsum (L.take k)) := hre
      have hr1 : r ≤ 1048576 := by omega
      clear hre
      by_cases hlt : k < L.length
      · obtain ⟨b, off, rfl, lb, hc⟩ := HR.out (by rw [tv_len]; omega)
        have d0 := hc k _ (tv_get L k hlt)
        have hlen := HRL.out (L.getD k ⟨#[]⟩) (by simp [List.getD, hlt])
        have hmt := tsum_take L k hlt
        have hml := tsum_le L (k + 1)
        generalize L.getD k ⟨#[]⟩ = x at *
        have HMT : Hid (tsum (L.take (k + 1)) = tsum (L.take k) + x.size ∧ tsum (L.take (k + 1)) ≤ tsum L) := ⟨hmt, hml⟩
        have k0 : (0 : Int) ≤ (k : Int) := by omega
        have k1 : (k : Int) < (L.length : Int) := by omega
        have hwr : IntKind.i64.wrap (r - (x.size : Int)) = r - (x.size : Int) := IntWalk.i64_in _ ⟨by omega, by omega⟩
        clear hmt hml hc
        by_cases hfit : (x.size : Int) ≤ r
        · have hneg : ¬ r - (x.size : Int) < 0 := by omega
          go_wp2_with fail
          go_roundw
          case rel => exact ⟨k + 1, r - x.size, by go_num, rfl, by omega, by have := HRE.out; have := HMT.out.1; omega, by omega, by first | rfl | trivial⟩
          case measure => simp [intOf]; omega
        · have hneg : r - (x.size : Int) < 0 := by omega
          have hno : left < (L.length + tsum L : Nat) := by have := HRE.out; have := HMT.out.1; have := HMT.out.2; omega
          have HNO : Hid (left < (L.length + tsum L : Nat)) := hno
          clear hno
          go_wp2_with fail
          go_ret
          exact ⟨-1, rfl, rfl, fun q => by have := HNO.out; omega, fun _ => by omega⟩
      · have e : k = L.length := by omega
        have hlt' : ¬ (k : Int) < (L.length : Int) := by omega
        have he : r = left - (L.length + tsum L : Nat) := by have := HRE.out; rw [e, List.take_length] at this; omega
        have HE : Hid (r = left - (L.length + tsum L : Nat)) := he
        clear e he
        go_wp2_with fail
        go_ret
        exact ⟨r, rfl, rfl, fun _ => HE.out, fun q => by have := HE.out; omega⟩
  · have h' : left - (L.length : Int) < 0 := by omega
    go_enter Tw.func15, Tw.ntmps15
    go_wp2_with fail
    go_ret
    exact ⟨-1, rfl, rfl, fun q => by omega, fun _ => by omega⟩
theorem szStringS_val {w : World} {v : Value} {L : List ByteArray} {lo hi : Nat} (left : Int) (h : SSee w v L lo hi) (hL : L.length ≤ 9223372036854775807 ∧ ∀ x ∈ L, x.size ≤ 9223372036854775807) (h0 : 0 ≤ left) (h1 : left ≤ 1048576) :
    Calls Tw.prog 15 #[v, .int .i64 left] w fun e w' => SzRows left (L.length + tsum L) w e w' := by
  obtain ⟨a, cap, rfl, hm⟩ := h
  exact szStringS_any a L cap left w hm.crow h0 h1 hL.1 hL.2
end Go.Proofs.YtfhcpehfmecpjaaT
/- The walks of the exact laws over stripes, over what is told of the program's own functions at every argument (written by gen/mklawstr.py). -/
namespace Go.Proofs.YtfhcpehfmecpjaaT
open Go.RowKit
attribute [local irreducible] schK schM schOk groupN placeX offX cutX joinX spansX tsum

theorem cutX_len (s : Int) (t : ByteArray) : (cutX s t).1.length ≤ 8 := by
  unfold cutX
  split
  · rename_i h
    show (cutL _ _ _).length ≤ 8
    rw [cutL_len]; have := (sch_bounds h.1).2.1; omega
  · exact Nat.zero_le _
set_option maxRecDepth 100000 in
set_option maxHeartbeats 4000000 in
theorem lawCutUnits (h : ∀ (s : Int) (t : ByteArray) (w : World), t.size ≤ 1048576 → Calls Tw.prog 8 #[.int .i64 s, .string t] w fun e w' => TPost8 (cutX s t) w e w') {w : World} {s : Int} {t : ByteArray} (ht : t.size ≤ 9223372036854775807) :
    Calls Tw.prog 4 #[.int .i64 s, .string t] w fun e w' => e = .returned (.bool true) ∧ Below w.heap.size w w' := by
  have HB : Shut (Below w.heap.size w w) := ⟨Below.refl _ _⟩
  have HH := Shut.mk h
  clear h
  go_enter Tw.func4, Tw.ntmps4
  by_cases hbig : (1048576 : Int) < (t.size : Int)
  case pos =>
    go_wp2_with fail
    go_ret
    exact ⟨rfl, HB.out⟩
  have HLR := cutX_len s t
  have HS := Shut.mk (fun W => specCutUnits s t W ht)
  have HI := Shut.mk (fun W => HH.out s t W (by omega))
  obtain ⟨R, ok, hre⟩ : ∃ R ok, cutX s t = (R, ok) := ⟨_, _, rfl⟩
  rw [hre] at HLR HS HI
  replace HLR : R.length ≤ 8 := HLR
  have hoo : (ok != ok) = false := by cases ok <;> rfl
  clear HH hre
  go_wp2_with fail
  refine (HS.out _).mono ?_
  rintro e w1 ⟨w0, rfl, hA, hb⟩
  have Fw0 := Shut.mk (show SAns w1 w0 R _ _ from hA)
  clear hA
  have z1 := hb.size
  replace HB := Shut.mk (HB.out.trans (hb.mono HB.out.size))
  clear hb
  go_wp2_with fail
  refine (HI.out _).mono ?_
  rintro e w2 ⟨g0, rfl, hA, hb⟩
  have Fg0 := Shut.mk (show SAns w2 g0 R _ _ from hA)
  clear hA
  replace Fw0 := Shut.mk (Fw0.out.below hb)
  have z2 := hb.size
  replace HB := Shut.mk (HB.out.trans (hb.mono HB.out.size))
  clear hb
  go_wp2_with fail
  refine (eqStringS_val Fg0.out Fw0.out (by omega)).mono ?_
  rintro e w3 ⟨rfl, hb⟩
  replace Fw0 := Shut.mk (Fw0.out.below hb)
  replace Fg0 := Shut.mk (Fg0.out.below hb)
  have z3 := hb.size
  replace HB := Shut.mk (HB.out.trans (hb.mono HB.out.size))
  clear hb
  go_wp2_with fail
  refine (markStringS_val 1 Fg0.out (by omega) (by have := HLR; omega)).mono ?_
  rintro e w4 ⟨rfl, hM, ht⟩
  obtain ⟨m1, hk⟩ : ∃ k : Nat, k = 1 + List.length R := ⟨_, rfl⟩
  rw [← hk]
  have Km1 : m1 ≤ 1 + 1048576 := by have := HLR; omega
  have Jm1 := Shut.mk hk
  clear hk
  replace Fw0 := Shut.mk (Fw0.out.turned ht (by omega))
  replace Fg0 := Shut.mk hM
  clear hM
  have z4 := ht.size
  replace HB := Shut.mk (HB.out.trans (ht.below (by omega) HB.out.size))
  clear ht
  go_wp2_with fail
  refine (heldStringS_val Fg0.out (by omega) (by have := HLR; omega)).mono ?_
  rintro e w5 ⟨rfl, hb⟩
  rw [← Jm1.out]
  replace Fw0 := Shut.mk (Fw0.out.below hb)
  replace Fg0 := Shut.mk (Fg0.out.below hb)
  have z5 := hb.size
  replace HB := Shut.mk (HB.out.trans (hb.mono HB.out.size))
  clear hb
  have hm0 : ¬ (m1 : Int) < 0 := by omega
  have hmm : ((m1 : Int) != (m1 : Int)) = false := by simp
  go_wp2_with fail
  refine (HI.out _).mono ?_
  rintro e w6 ⟨h0, rfl, hA, hb⟩
  have Fh0 := Shut.mk (show SAns w6 h0 R _ _ from hA)
  clear hA
  replace Fw0 := Shut.mk (Fw0.out.below hb)
  replace Fg0 := Shut.mk (Fg0.out.below hb)
  have z6 := hb.size
  replace HB := Shut.mk (HB.out.trans (hb.mono HB.out.size))
  clear hb
  go_wp2_with fail
  refine (eqStringS_val Fh0.out Fw0.out (by omega)).mono ?_
  rintro e w7 ⟨rfl, hb⟩
  replace Fw0 := Shut.mk (Fw0.out.below hb)
  replace Fg0 := Shut.mk (Fg0.out.below hb)
  replace Fh0 := Shut.mk (Fh0.out.below hb)
  have z7 := hb.size
  replace HB := Shut.mk (HB.out.trans (hb.mono HB.out.size))
  clear hb
  go_wp2_with fail
  refine (heldStringS_val Fg0.out (by omega) (by have := HLR; omega)).mono ?_
  rintro e w8 ⟨rfl, hb⟩
  rw [← Jm1.out]
  replace Fw0 := Shut.mk (Fw0.out.below hb)
  replace Fg0 := Shut.mk (Fg0.out.below hb)
  replace Fh0 := Shut.mk (Fh0.out.below hb)
  have z8 := hb.size
  replace HB := Shut.mk (HB.out.trans (hb.mono HB.out.size))
  clear hb
  go_wp2_with fail
  go_ret
  exact ⟨rfl, HB.out⟩
set_option maxRecDepth 100000 in
set_option maxHeartbeats 4000000 in
theorem lawJoinUnits (h : ∀ (w : World) (u : Value) (L : List ByteArray) (lo hi : Nat) (s n : Int), SSee w u L lo hi → TFit L → Calls Tw.prog 9 #[.int .i64 s, u, .int .i64 n] w fun e w' => JoinPost (joinX s L n) w e w') {w : World} {s n : Int} {u : Value} {L : List ByteArray} (hu : SSee w u L 0 w.heap.size) (lL : L.length ≤ 9223372036854775807 ∧ ∀ x ∈ L, x.size ≤ 9223372036854775807) :
    Calls Tw.prog 5 #[.int .i64 s, u, .int .i64 n] w fun e w' => e = .returned (.bool true) ∧ Below w.heap.size w w' := by
  have Fu := Shut.mk hu
  have HL := Shut.mk lL
  clear hu lL
  have HB : Shut (Below w.heap.size w w) := ⟨Below.refl _ _⟩
  have HH := Shut.mk h
  clear h
  go_enter Tw.func5, Tw.ntmps5
  go_wp2_with fail
  refine (szStringS_val 1048576 Fu.out HL.out (by omega) (by omega)).mono ?_
  rintro e w1 ⟨r0, rfl, hw, q1, q2⟩
  obtain rfl : w = w1 := hw.symm
  clear hw
  by_cases hfit : ((L.length + tsum L : Nat) : Int) ≤ 1048576
  case neg =>
    have hneg : r0 < 0 := q2 (by omega)
    clear q1 q2
    go_wp2_with fail
    go_ret
    exact ⟨rfl, HB.out⟩
  have hr := q1 hfit
  have r0n : ¬ r0 < 0 := by omega
  have HFL : Shut (TFit L) := ⟨by unfold TFit; omega⟩
  have NL : L.length ≤ 1048576 := by omega
  clear q1 q2 hr hfit
  have HS := Shut.mk fun (w : World) (u : Value) (lo hi : Nat) (hs : SSee w u L lo hi) => specJoinUnits s n hs HFL.out
  have HI := Shut.mk fun (w : World) (u : Value) (lo hi : Nat) (hs : SSee w u L lo hi) => HH.out w u L lo hi s n hs HFL.out
  unfold JoinPost at HS HI
  generalize (joinX s L n).1 = R at HS HI
  generalize (joinX s L n).2 = ok at HS HI
  have hoo : (ok != ok) = false := by cases ok <;> rfl
  clear HH
  go_wp2_with fail
  refine (toStringS_val Fu.out HFL.out).mono ?_
  rintro e w1 ⟨a1, rfl, hA, hb⟩
  have Fa1 := Shut.mk hA
  clear hA
  replace Fu := Shut.mk (Fu.out.below hb)
  have z1 := hb.size
  replace HB := Shut.mk (HB.out.trans (hb.mono HB.out.size))
  clear hb
  go_wp2_with fail
  refine (HS.out _ _ _ _ Fa1.out.see).mono ?_
  rintro e w2 ⟨rfl, hb⟩
  replace Fu := Shut.mk (Fu.out.below hb)
  replace Fa1 := Shut.mk (Fa1.out.below hb)
  have z2 := hb.size
  replace HB := Shut.mk (HB.out.trans (hb.mono HB.out.size))
  clear hb
  clear Fa1
  go_wp2_with fail
  refine (toStringS_val Fu.out HFL.out).mono ?_
  rintro e w3 ⟨x1, rfl, hA, hb⟩
  have Fx1 := Shut.mk hA
  clear hA
  replace Fu := Shut.mk (Fu.out.below hb)
  have z3 := hb.size
  replace HB := Shut.mk (HB.out.trans (hb.mono HB.out.size))
  clear hb
  go_wp2_with fail
  refine (HI.out _ _ _ _ Fx1.out.see).mono ?_
  rintro e w4 ⟨rfl, hb⟩
  replace Fu := Shut.mk (Fu.out.below hb)
  replace Fx1 := Shut.mk (Fx1.out.below hb)
  have z4 := hb.size
  replace HB := Shut.mk (HB.out.trans (hb.mono HB.out.size))
  clear hb
  go_wp2_with fail
  refine (toStringS_val Fu.out HFL.out).mono ?_
  rintro e w5 ⟨a4, rfl, hA, hb⟩
  have Fa4 := Shut.mk hA
  clear hA
  replace Fu := Shut.mk (Fu.out.below hb)
  replace Fx1 := Shut.mk (Fx1.out.below hb)
  have z5 := hb.size
  replace HB := Shut.mk (HB.out.trans (hb.mono HB.out.size))
  clear hb
  go_wp2_with fail
  refine (eqStringS_val Fx1.out Fa4.out (by omega)).mono ?_
  rintro e w6 ⟨rfl, hb⟩
  replace Fu := Shut.mk (Fu.out.below hb)
  replace Fx1 := Shut.mk (Fx1.out.below hb)
  replace Fa4 := Shut.mk (Fa4.out.below hb)
  have z6 := hb.size
  replace HB := Shut.mk (HB.out.trans (hb.mono HB.out.size))
  clear hb
  go_wp2_with fail
  go_ret
  exact ⟨rfl, HB.out⟩
end Go.Proofs.YtfhcpehfmecpjaaT
/- The program's own SchemaOf, GroupSize, PlaceOf, OffsetOf and Spans. -/
namespace Go.Proofs.YtfhcpehfmecpjaaT
open Go.RowKit
attribute [local go_sem ↓] Go.wp_at_zero Go.wp_at_succ

theorem implSch (s : Int) (w : World) : Calls Tw.prog 22 #[.int .i64 s] w fun e w' => SchPost s w e w' := by
  cases h : schOk s with
  | true =>
    obtain rfl | rfl | rfl := sch_cases h
    all_goals
      clear h
      go_enter Tw.func22, Tw.ntmps22
      go_wp2_with fail
      go_ret3
      exact ⟨rfl, rfl⟩
  | false =>
    obtain ⟨h1, h2, h3⟩ := sch_no h
    obtain ⟨e1, e2⟩ := sch_zero h
    unfold SchPost
    rw [e1, e2, h]
    clear h e1 e2
    go_enter Tw.func22, Tw.ntmps22
    go_wp2_with fail
    go_ret3
    exact ⟨rfl, rfl⟩
theorem implSize (s : Int) (w : World) : Calls Tw.prog 23 #[.int .i64 s] w fun e w' => e = .returned (.int .i64 (groupN s : Nat)) ∧ w' = w := by
  have HS := Shut.mk (fun W => implSch s W)
  unfold SchPost at HS
  have hk : schK s ≤ 4 := by
    cases h : schOk s with
    | true => exact (sch_bounds h).2.1
    | false => rw [(sch_zero h).1]; omega
  have hg : ((groupN s : Nat) : Int) = (schK s : Int) * 4 * 2 := by unfold groupN; push_cast; omega
  generalize schOk s = ok at *
  generalize schM s = m at *
  generalize schK s = k at *
  have HG := Shut.mk hg
  clear hg
  go_enter Tw.func23, Tw.ntmps23
  go_wp2_with fail
  refine (HS.out _).mono ?_
  rintro e w1 ⟨rfl, rfl⟩
  go_wp2_with fail
  go_ret
  exact ⟨by rw [HG.out]; first | rfl | (simp; done) | (congr 2; omega), rfl⟩
theorem implGroupSize (s : Int) (w : World) : Calls Tw.prog 23 #[.int .i64 s] w fun e w' => e = .returned (.int .i64 (groupN s : Nat)) ∧ Below w.heap.size w w' :=
  (implSize s w).mono (fun _ _ h => ⟨h.1, by rw [h.2]; exact Below.refl _ _⟩)
set_option maxHeartbeats 2000000 in
theorem implPlaceOf (s off : Int) (w : World) : Calls Tw.prog 33 #[.int .i64 s, .int .i64 off] w fun e w' => PlacePost s off w e w' := by
  have HS := Shut.mk (fun W => implSch s W)
  unfold SchPost at HS
  have HG := Shut.mk (fun W => implSize s W)
  unfold PlacePost
  cases h : schOk s with
  | false =>
    have e0 : placeX s off = (0, 0, 0) := by unfold placeX; rw [if_neg (by rw [h]; simp)]
    rw [e0]
    rw [h] at HS
    clear h e0
    generalize schK s = k at *
    generalize schM s = m at *
    go_enter Tw.func33, Tw.ntmps33
    go_wp2_with fail
    refine (HS.out _).mono ?_
    rintro e w1 ⟨rfl, rfl⟩
    go_wp2_with fail
    go_ret3
    exact ⟨rfl, Below.refl _ _⟩
  | true =>
    rw [h] at HS
    obtain ⟨b1, b2, _, _⟩ := sch_bounds h
    by_cases ho : 0 ≤ off ∧ off ≤ 100000
    · obtain ⟨o, rfl⟩ := Int.eq_ofNat_of_zero_le ho.1
      have ho5 : o ≤ 100000 := by omega
      have hl0 : ¬ (o : Int) < 0 := by omega
      have hl1 : ¬ (100000 : Int) < (o : Int) := by omega
      have e0 : placeX s (o : Int) = (o / (schK s * 8), unitAt (schK s) o, placeIn (schK s) o) := by unfold placeX; rw [if_pos ⟨h, ho⟩]; rfl
      rw [e0]
      unfold groupN at HG
      clear h ho e0
      generalize schM s = m at *
      generalize schK s = k at *
      obtain ⟨S, hS⟩ : ∃ S, S = k * 8 := ⟨_, rfl⟩
      have hS0 : 0 < S := by omega
      have hS32 : S ≤ 32 := by omega
      have e1 : ((o : Int) % (S : Int)) = ((o % S : Nat) : Int) := by push_cast; rfl
      have e2 : ((o : Int) / (S : Int)) = ((o / S : Nat) : Int) := by push_cast; rfl
      have hb : o % S < S := Nat.mod_lt _ hS0
      have e3 : ((o % S : Nat) : Int) / 4 = ((o % S / 4 : Nat) : Int) := by push_cast; rfl
      have e4 : ((o % S : Nat) : Int) % 4 = ((o % S % 4 : Nat) : Int) := by push_cast; rfl
      have e5 : ((o % S / 4 : Nat) : Int) % (k : Int) = ((unitAt k o : Nat) : Int) := by unfold unitAt; rw [← hS]; push_cast; rfl
      have e6 : ((o % S / 4 : Nat) : Int) / (k : Int) = ((o % S / 4 / k : Nat) : Int) := by push_cast; rfl
      have e7 : ((placeIn k o : Nat) : Int) = ((o % S / 4 / k : Nat) : Int) * 4 + ((o % S % 4 : Nat) : Int) := by unfold placeIn; rw [← hS]; push_cast; rfl
      have hc8 : o % S / 4 ≤ 8 := by omega
      have hd : o % S / 4 / k ≤ 8 := Nat.le_trans (Nat.div_le_self _ _) hc8
      have hr : o % S % 4 < 4 := Nat.mod_lt _ (by omega)
      have hqq : o / S ≤ 100000 := Nat.le_trans (Nat.div_le_self _ _) ho5
      rw [← hS] at HG ⊢
      generalize unitAt k o = u at *
      generalize placeIn k o = pl at *
      generalize o % S % 4 = r at *
      generalize o % S / 4 / k = d at *
      generalize o % S / 4 = c at *
      generalize o % S = b at *
      generalize o / S = q at *
      have HE := Shut.mk e7
      have hSn : ((S : Int) == 0) = false := by rw [beq_eq_false_iff_ne]; omega
      have hkn : ((k : Int) == 0) = false := by rw [beq_eq_false_iff_ne]; omega
      have s0 : (0 : Int) < (S : Int) := by omega
      have k0 : (0 : Int) < (k : Int) := by omega
      have t1 : (o : Int).tmod (S : Int) = (b : Int) := by rw [Int.tmod_eq_emod_of_nonneg (by omega)]; exact e1
      have t2 : (o : Int).tdiv (S : Int) = (q : Int) := by rw [Int.tdiv_eq_ediv_of_nonneg (by omega)]; exact e2
      have t3 : (b : Int).tdiv 4 = (c : Int) := by rw [Int.tdiv_eq_ediv_of_nonneg (by omega)]; exact e3
      have t4 : (b : Int).tmod 4 = (r : Int) := by rw [Int.tmod_eq_emod_of_nonneg (by omega)]; exact e4
      have t5 : (c : Int).tmod (k : Int) = (u : Int) := by rw [Int.tmod_eq_emod_of_nonneg (by omega)]; exact e5
      have t6 : (c : Int).tdiv (k : Int) = (d : Int) := by rw [Int.tdiv_eq_ediv_of_nonneg (by omega)]; exact e6
      clear e7 hS
      go_enter Tw.func33, Tw.ntmps33
      go_wp2_with fail
      refine (HS.out _).mono ?_
      rintro e w1 ⟨rfl, rfl⟩
      go_wp2_with fail
      go_quiet ((go_at_call 23; exact Calls.quiet_of_same (HG.out _)))
      go_wp2_with fail
      go_quiet (fail)
      go_wp2_with fail
      go_ret3
      exact ⟨by rw [HE.out]; rfl, ⟨rfl, rfl, rfl, Nat.le_refl _, fun _ _ => rfl⟩⟩
    · have e0 : placeX s off = (0, 0, 0) := by unfold placeX; rw [if_neg (fun q => ho q.2)]
      rw [e0]
      clear h e0
      generalize schK s = k at *
      generalize schM s = m at *
      by_cases hl0 : off < 0
      · clear ho
        go_enter Tw.func33, Tw.ntmps33
        go_wp2_with fail
        refine (HS.out _).mono ?_
        rintro e w1 ⟨rfl, rfl⟩
        go_wp2_with fail
        go_ret3
        exact ⟨rfl, Below.refl _ _⟩
      · have hl1 : (100000 : Int) < off := by omega
        clear ho
        go_enter Tw.func33, Tw.ntmps33
        go_wp2_with fail
        refine (HS.out _).mono ?_
        rintro e w1 ⟨rfl, rfl⟩
        go_wp2_with fail
        go_ret3
        exact ⟨rfl, Below.refl _ _⟩
theorem span_one {S n j : Nat} (h1 : j * S < n) (h2 : n ≤ j * S + S) (hS : 0 < S) : spanL S n = List.replicate j (S : Int) ++ [((n - j * S : Nat) : Int)] := by
  unfold spanL
  rw [span_last hS h1 h2]
end Go.Proofs.YtfhcpehfmecpjaaT
