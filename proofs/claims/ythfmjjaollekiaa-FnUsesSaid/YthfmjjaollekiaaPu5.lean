/- Texts of ours, laid one behind the other: SpnC, HexM, SpnD, NestB, NestC, SpnE, OpenC. -/
import Derived.Test.YthfmjjaollekiaaPu2
import Derived.Test.YthfmjjaollekiaaPu1
import Derived.Test.YthfmjjaollekiaaPu4
import Derived.PlainAid
import Derived.OpenShut
/- SpnC: The walks of the models' CutUnits and JoinUnits. -/
namespace Go.Proofs.Ythfmjjaollekiaa
set_option maxRecDepth 100000
open Go.RowKit
attribute [local go_sem ↓] Go.wp_at_zero Go.wp_at_succ

/-- The bytes of a text that lie in a unit, in their order. -/
def unitB (k : Nat) (t : ByteArray) (n u : Nat) : ByteArray := ⟨(((List.range n).filter fun j => decide (unitAt k j = u)).map fun j => t.data.toList.getD j 0).toArray⟩
def cutL (k : Nat) (t : ByteArray) (n : Nat) : List ByteArray := (List.range k).map (unitB k t n)
def cutX (s : Int) (t : ByteArray) : List ByteArray × Bool := if schOk s = true ∧ t.size ≤ groupN s then (cutL (schK s) t t.size, true) else ([], false)
theorem cutL_len (k : Nat) (t : ByteArray) (n : Nat) : (cutL k t n).length = k := by simp [cutL]
theorem cutL_at {k : Nat} {t : ByteArray} {n u : Nat} (h : u < k) : (cutL k t n).getD u ⟨#[]⟩ = unitB k t n u := by
  unfold cutL
  rw [List.getD_eq_getElem?_getD, List.getElem?_map, List.getElem?_range h]; rfl
theorem unit_lt {k : Nat} (h : 0 < k) (i : Nat) : unitAt k i < k := Nat.mod_lt _ h
def byteB (c : UInt8) : ByteArray := ⟨#[c]⟩
theorem unitB_same {k : Nat} {t : ByteArray} {i u : Nat} (h : unitAt k i = u) : unitB k t (i + 1) u = ⟨(unitB k t i u).data ++ (byteB (t.data.toList.getD i 0)).data⟩ := by
  unfold unitB byteB
  rw [List.range_succ, List.filter_append]
  simp [h]
theorem unitB_other {k : Nat} {t : ByteArray} {i u : Nat} (h : unitAt k i ≠ u) : unitB k t (i + 1) u = unitB k t i u := by
  unfold unitB
  rw [List.range_succ, List.filter_append]
  simp [h]
theorem cutL_step {k : Nat} (hk : 0 < k) (t : ByteArray) (i : Nat) : (cutL k t i).set (unitAt k i) ⟨((cutL k t i).getD (unitAt k i) ⟨#[]⟩).data ++ (byteB (t.data.toList.getD i 0)).data⟩ = cutL k t (i + 1) := by
  rw [cutL_at (unit_lt hk i), ← unitB_same rfl]
  apply List.ext_getElem (by simp [cutL])
  intro u h1 h2
  rw [List.getElem_set]
  have hu : u < k := by simpa [cutL] using h2
  simp only [cutL, List.getElem_map, List.getElem_range]
  by_cases e : unitAt k i = u
  · rw [if_pos e, e]
  · rw [if_neg e, unitB_other e]
theorem cutL_0 (k : Nat) (t : ByteArray) : cutL k t 0 = List.replicate k ⟨#[]⟩ := by
  apply List.ext_getElem (by simp [cutL])
  intro u h1 h2
  simp [cutL, unitB]
theorem byte_is {t : ByteArray} {i : Nat} (h : i < t.size) : t.extract i (i + 1) = byteB (t.data.toList.getD i 0) := by
  apply ByteArray.ext
  have h' : i < t.data.size := h
  simp only [byteB, ByteArray.data_extract]
  apply Array.ext
  · simp; omega
  · intro j h1 h2
    have hj : j = 0 := by simp at h2; omega
    subst hj
    simp
    rw [Array.getElem?_eq_getElem h', Option.getD_some]
theorem byte_size {t : ByteArray} {i : Nat} (h : i < t.size) : (t.extract i (i + 1)).size = 1 := by rw [byte_is h]; rfl
theorem byte_cat {x : ByteArray} {t : ByteArray} {i : Nat} (h : i < t.size) : x ++ t.extract i (i + 1) = ⟨x.data ++ (byteB (t.data.toList.getD i 0)).data⟩ := by
  rw [byte_is h]
  apply ByteArray.ext
  simp
theorem unitB_size (k : Nat) (t : ByteArray) (n u : Nat) : (unitB k t n u).size ≤ n := by
  have h := List.length_filter_le (fun j => decide (unitAt k j = u)) (List.range n)
  simp only [List.length_range] at h
  show (List.map _ _).toArray.size ≤ n
  rw [List.size_toArray, List.length_map]
  exact h
theorem WCells.drawn {w : World} {g : Nat} {L : List Value} (h : WCells w g L) : WCells w.drew g L := h.below (Below.drew (Below.refl w.heap.size w)) h.1
/-- What such an answer is. -/
def TPost8 (R : List ByteArray × Bool) (w : World) (e : Ending) (w' : World) : Prop := ∃ v, e = .returned (.tuple #[v, .bool R.2]) ∧ SAns w' v R.1 w.heap.size w'.heap.size ∧ Below w.heap.size w w'
end Go.Proofs.Ythfmjjaollekiaa
/- HexM: Plain facts on hexadecimal figures. -/
namespace Go.Proofs.Ythfmjjaollekiaa.W
open Go.PlainAid (bt)

/-- The figure of a number below 16. -/
def hfI (x : Int) : Int := if x < 10 then 48 + x else 87 + x
theorem hfI_bd (x : Int) (h0 : 0 ≤ x) (h1 : x < 16) : 0 ≤ hfI x ∧ hfI x < 256 := by unfold hfI; split <;> omega
def hf (n : Nat) : UInt8 := UInt8.ofNat (hfI n).toNat
theorem hf_toNat (n : Nat) (h : n < 16) : ((hf n).toNat : Int) = hfI n := by
  have := hfI_bd n (by omega) (by omega)
  unfold hf; simp; omega
def hexL (l : List UInt8) : List UInt8 := l.flatMap fun b => [hf (b.toNat / 16), hf (b.toNat % 16)]
theorem hexL_len (l : List UInt8) : (hexL l).length = 2 * l.length := by
  induction l with
  | nil => rfl
  | cons b l ih => simp [hexL] at ih ⊢; omega
theorem hexL_snoc (l : List UInt8) (b : UInt8) : hexL (l ++ [b]) = hexL l ++ [hf (b.toNat / 16), hf (b.toNat % 16)] := by simp [hexL]

/-- The first k bytes of a text. -/
def firstK (s : ByteArray) (k : Nat) : List UInt8 := s.data.toList.take k
theorem firstK_len (s : ByteArray) (k : Nat) (h : k ≤ s.size) : (firstK s k).length = k := by
  have e : s.data.size = s.size := rfl
  simp [firstK]; omega
theorem firstK_all (s : ByteArray) (k : Nat) (h : s.size ≤ k) : firstK s k = s.data.toList := by
  have e : s.data.size = s.size := rfl
  unfold firstK; exact List.take_of_length_le (by simp; omega)
theorem firstK_step (s : ByteArray) (k : Nat) (h : k < s.size) : ∃ b : UInt8, firstK s (k + 1) = firstK s k ++ [b] ∧ bt s k = (b.toNat : Int) := by
  refine ⟨s[k], ?_, ?_⟩
  · unfold firstK; rw [List.take_succ_eq_append_getElem (by simpa using h)]; rfl
  · unfold bt; rw [dif_pos h]
end Go.Proofs.Ythfmjjaollekiaa.W
namespace Go.Proofs.Ythfmjjaollekiaa
open Go.RowKit
open Go.PlainAid (bt)
theorem bt_words (s : ByteArray) (k : Nat) : IntKind.i64.wrap (bt s k) = bt s k ∧ (bt s k).tdiv 16 = bt s k / 16 ∧ IntKind.i64.wrap (bt s k / 16) = bt s k / 16 ∧ (bt s k).tmod 16 = bt s k % 16 ∧ IntKind.i64.wrap (bt s k % 16) = bt s k % 16 := by
  have b0 := Go.PlainAid.bt_nonneg s k
  have b1 := Go.PlainAid.bt_le s k
  refine ⟨IntWalk.i64_in _ ⟨by omega, by omega⟩, Int.tdiv_eq_ediv_of_nonneg b0, IntWalk.i64_in _ ⟨by omega, by omega⟩, Int.tmod_eq_emod_of_nonneg b0, IntWalk.i64_in _ ⟨by omega, by omega⟩⟩
theorem bt_words8 (s : ByteArray) (k : Nat) : IntKind.u8.wrap (bt s k / 16) = bt s k / 16 ∧ IntKind.u8.wrap (bt s k % 16) = bt s k % 16 := by
  have b0 := Go.PlainAid.bt_nonneg s k
  have b1 := Go.PlainAid.bt_le s k
  exact ⟨IntWalk.u8_in _ ⟨by omega, by omega⟩, IntWalk.u8_in _ ⟨by omega, by omega⟩⟩
/-- A byte of a string. -/
theorem index_str (s : ByteArray) (k : Nat) (h : k < s.size) (w : World) :
    (Instr.index 9 (.string s) (.int .i64 (k : Int))).run Try.prog w = .ok (.int .u8 (bt s k)) w := by
  have hb := Go.PlainAid.get_bt s k h
  rw [run_index_string _ 9 s .i64 k Try.underlying9, dif_pos ⟨by omega, by omega⟩, ← hb]
  rfl
/-- Behind the two figures of byte k. -/
theorem hex_own {B k : Nat} {s : ByteArray} {w1 : World} {v' : Value} {x y : Int} (hk : k < s.size) (hx : x = W.hfI (bt s k / 16)) (hy : y = W.hfI (bt s k % 16))
    (h : w1.ownsRow B 5 1 v' (2 * k + 2) (bv (W.hexL (W.firstK s k)) ++ [.int .u8 x, .int .u8 y])) :
    w1.ownsRow B 5 1 v' (2 * (k + 1)) (bv (W.hexL (W.firstK s (k + 1)))) := by
  obtain ⟨b, hb, e⟩ := W.firstK_step s k hk
  have hlt := b.toNat_lt
  have e1 : Value.int .u8 x = .int .u8 ((W.hf (b.toNat / 16)).toNat : Int) := by
    rw [W.hf_toNat _ (by omega), hx, e]; congr 2
  have e2 : Value.int .u8 y = .int .u8 ((W.hf (b.toNat % 16)).toNat : Int) := by
    rw [W.hf_toNat _ (by omega), hy, e]; congr 2
  have e3 : bv (W.hexL (W.firstK s k)) ++ [.int .u8 x, .int .u8 y] = bv (W.hexL (W.firstK s (k + 1))) := by
    rw [hb, W.hexL_snoc, e1, e2]; simp [bv]
  rw [e3] at h
  exact h
end Go.Proofs.Ythfmjjaollekiaa
/- SpnD: The walk of the model's JoinUnits. -/
namespace Go.Proofs.Ythfmjjaollekiaa
open Go.RowKit
attribute [local go_sem ↓] Go.wp_at_zero Go.wp_at_succ

def joinAt (k : Nat) (U : List ByteArray) (i : Nat) : UInt8 := (U.getD (unitAt k i) ⟨#[]⟩).data.toList.getD (placeIn k i) 0
def joinL (k : Nat) (U : List ByteArray) (n : Nat) : List UInt8 := (List.range n).map (joinAt k U)
def joinX (s : Int) (U : List ByteArray) (n : Int) : ByteArray × Bool := if schOk s = true ∧ U.length = schK s ∧ 0 ≤ n ∧ n ≤ (groupN s : Int) then (⟨(joinL (schK s) U n.toNat).toArray⟩, true) else (⟨#[]⟩, false)
theorem joinX_no {s : Int} {U : List ByteArray} {n : Int} (h : ¬ (schOk s = true ∧ U.length = schK s ∧ 0 ≤ n ∧ n ≤ (groupN s : Int))) : joinX s U n = (⟨#[]⟩, false) := if_neg h
def JoinPost (R : ByteArray × Bool) (w : World) (e : Ending) (w' : World) : Prop := e = .returned (.tuple #[.string R.1, .bool R.2]) ∧ Below w.heap.size w w'
theorem joinL_len (k : Nat) (U : List ByteArray) (n : Nat) : (joinL k U n).length = n := by simp [joinL]
theorem joinL_succ (k : Nat) (U : List ByteArray) (n : Nat) : bv (joinL k U (n + 1)) = bv (joinL k U n) ++ [.int .u8 ((joinAt k U n).toNat : Int)] := by
  unfold joinL; rw [List.range_succ, List.map_append]; simp [bv]
theorem get_byte (s : ByteArray) (k : Nat) (h : k < s.size) : Go.PlainAid.bt s k = ((s.data.toList.getD k 0).toNat : Int) := by
  unfold Go.PlainAid.bt
  rw [dif_pos h]
  have : s.data.toList.getD k 0 = s[k] := by
    have hk : k < s.data.size := h
    rw [List.getD_eq_getElem?_getD, Array.getElem?_toList, Array.getElem?_eq_getElem hk]
    rfl
  rw [this]
theorem get_none (s : ByteArray) (k : Nat) (h : ¬ k < s.size) : s.data.toList.getD k 0 = 0 := by
  have hk : s.data.toList.length ≤ k := by simpa using h
  rw [List.getD_eq_getElem?_getD, List.getElem?_eq_none hk]; rfl
theorem units_cells {w : World} {a : Option Addr} {L : List ByteArray} {lo hi : Nat} (h : RRow w a (tv L) lo hi) (hp : 0 < L.length) : ∃ b off, a = some ⟨b, off, none⟩ ∧ b < w.heap.size ∧ ∀ j, j < L.length → w.cell? ⟨b, off + j, none⟩ = some (.string (L.getD j ⟨#[]⟩)) := by
  obtain ⟨b, off, e, _, _, hb, hc⟩ := h (by rw [tv_len]; exact hp)
  exact ⟨b, off, e, hb, fun j hj => hc j _ (tv_get L j hj)⟩
end Go.Proofs.Ythfmjjaollekiaa
/- NestB: Rows of rows of numbers: the laws' own copies, sizes, comparisons and marks. -/
namespace Go.Proofs.Ythfmjjaollekiaa
open Go.RowKit
attribute [local go_sem ↓] Go.wp_at_zero Go.wp_at_succ

theorem infoRow : (Try.prog.info? 32).map (fun i => (i.zero, i.size, i.bytes)) = some (some (.slice none 0 0), 1, 24) := by kernel_rfl
/-- Where the copy of a row of rows stands. -/
structure TI (w wr : World) (ss : List SR) (ts : List SR) : Prop where
  rweq : rws ts = rws (ss.take ts.length)
  out : WCells wr w.heap.size (svs ts ++ List.replicate (ss.length - ts.length) (.slice none 0 0))
  rows : ∀ s ∈ ts, ∃ b, s.loc = some ⟨b, 0, none⟩ ∧ w.heap.size ≤ b ∧ b < wr.heap.size ∧ b ≠ w.heap.size ∧ WCells wr b (ics s.row) ∧ s.row.length ≤ s.cap
  apart : (ts.map SR.loc).Nodup
  bel : Below w.heap.size w wr
theorem set_mid (A B : List Value) (x y : Value) (k : Nat) (h : A.length = k) : (A ++ x :: B).set k y = A ++ y :: B := by
  subst h
  rw [List.set_append_right _ _ (Nat.le_refl _)]
  simp
theorem TI.next {w wr w1 : World} {ss ts : List SR} {g1 : Nat} {row : List Int} {n : Nat} (h : TI w wr ss ts) (hk : ts.length < ss.length) (hrow : (ss[ts.length]).row = row) (hn : n = row.length) (hw : w.heap.size < wr.heap.size)
    (hg1 : wr.heap.size ≤ g1) (hc : WCells w1 g1 (ics row)) (hb : Below wr.heap.size wr w1) : TI w (w1.setCell ⟨w.heap.size, ts.length, none⟩ (.slice (some ⟨g1, 0, none⟩) n n)) ss (ts ++ [SR.mk (some ⟨g1, 0, none⟩) row row.length]) := by
  subst hn
  have hne : g1 ≠ w.heap.size := by omega
  have hsz : (w1.setCell ⟨w.heap.size, ts.length, none⟩ (.slice (some ⟨g1, 0, none⟩) row.length row.length)).heap.size = w1.heap.size := by simp [World.setCell]
  have hgs : w1.grownBy (w1.setCell ⟨w.heap.size, ts.length, none⟩ (.slice (some ⟨g1, 0, none⟩) row.length row.length)) (some w.heap.size) := gb_set' _ _ _ _
  refine ⟨?_, ?_, ?_, ?_, ?_⟩
  · rw [rws_snoc, h.rweq, List.length_append, List.length_singleton, List.take_succ_eq_append_getElem hk, rws_snoc, hrow]
  · have o := (h.out.below hb h.out.1).set ts.length (.slice (some ⟨g1, 0, none⟩) row.length row.length) (by rw [List.length_append, svs_len, List.length_replicate]; omega)
    obtain ⟨m, hm⟩ : ∃ m, ss.length - ts.length = m + 1 := ⟨ss.length - ts.length - 1, by omega⟩
    rw [hm, List.replicate_succ, set_mid _ _ _ _ _ (svs_len ts)] at o
    have e : svs (ts ++ [SR.mk (some ⟨g1, 0, none⟩) row row.length]) ++ List.replicate (ss.length - (ts ++ [SR.mk (some ⟨g1, 0, none⟩) row row.length]).length) (.slice none 0 0) = svs ts ++ .slice (some ⟨g1, 0, none⟩) row.length row.length :: List.replicate m (.slice none 0 0) := by
      rw [List.length_append, List.length_singleton, show ss.length - (ts.length + 1) = m by omega]
      simp [svs, srv]
    rw [e]
    exact o
  · intro s hs
    rcases List.mem_append.1 hs with h1 | h1
    · obtain ⟨b, e, q1, q2, q3, q4, q5⟩ := h.rows s h1
      exact ⟨b, e, q1, by rw [hsz]; exact Nat.lt_of_lt_of_le q2 hb.size, q3, (q4.below hb q4.1).apart hgs q3, q5⟩
    · simp at h1
      subst h1
      exact ⟨g1, rfl, by omega, by rw [hsz]; exact hc.1, hne, hc.apart hgs hne, Nat.le_refl _⟩
  · rw [List.map_append, List.nodup_append]
    refine ⟨h.apart, by simp, fun l hl l' hl' => ?_⟩
    obtain ⟨s, hs, rfl⟩ := List.mem_map.1 hl
    simp only [List.map_cons, List.map_nil, List.mem_singleton] at hl'
    subst hl'
    obtain ⟨b, e, _, q2, _⟩ := h.rows s hs
    rw [e]
    intro e2
    have e4 : b = g1 := congrArg Addr.block (Option.some.inj e2)
    omega
  · exact (h.bel.trans (hb.mono h.bel.size)).setCell (p := ⟨w.heap.size, ts.length, none⟩) (Nat.le_refl _) _
theorem TI.fin {w wr : World} {ss ts : List SR} (h : TI w wr ss ts) (hl : ts.length = ss.length) : rws ts = rws ss ∧ MW wr w.heap.size ts w.heap.size wr.heap.size := by
  refine ⟨by rw [h.rweq, hl, List.take_of_length_le (Nat.le_refl _)], ?_, Nat.le_refl _, h.out.1, h.rows, h.apart⟩
  have := h.out
  rwa [hl, Nat.sub_self, List.replicate_zero, List.append_nil] at this
/-- What a copy of a row of rows is. -/
def ToRows (ss : List SR) (w : World) (e : Ending) (w' : World) : Prop :=
  ∃ g ts, e = .returned (.slice (some ⟨g, 0, none⟩) ss.length ss.length) ∧ List.length (α := SR) ts = ss.length ∧ rws ts = rws ss ∧ MW w' g ts w.heap.size w'.heap.size ∧ Below w.heap.size w w'
/-- The size of rows of numbers, as the laws count it. -/
def msum : List SR → Nat
  | [] => 0
  | s :: ss => s.row.length + msum ss
theorem msum_take (ss : List SR) (k : Nat) (h : k < ss.length) : msum (ss.take (k + 1)) = msum (ss.take k) + ss[k].row.length := by
  induction ss generalizing k with
  | nil => simp at h
  | cons s ss ih =>
    cases k with
    | zero => simp [msum]
    | succ k =>
      have := ih k (by simpa using h)
      simp only [List.take_succ_cons, msum, this, List.getElem_cons_succ]
      omega
theorem msum_le (ss : List SR) (k : Nat) : msum (ss.take k) ≤ msum ss := by
  induction ss generalizing k with
  | nil => simp [msum]
  | cons s ss ih =>
    cases k with
    | zero => simp [msum]
    | succ k => have := ih k; simp only [List.take_succ_cons, msum]; omega
theorem msum_mem {ss : List SR} {s : SR} (h : s ∈ ss) : s.row.length ≤ msum ss := by
  induction ss with
  | nil => simp at h
  | cons t ss ih =>
    rcases List.mem_cons.1 h with rfl | h
    · simp only [msum]; omega
    · have := ih h; simp only [msum]; omega
/-- What is left of the room: or a number below 0. -/
def SzRows (left : Int) (n : Nat) (w : World) (e : Ending) (w' : World) : Prop := ∃ r : Int, e = .returned (.int .i64 r) ∧ w' = w ∧ ((n : Int) ≤ left → r = left - n) ∧ (left < n → r < 0)
end Go.Proofs.Ythfmjjaollekiaa
/- NestC: Rows of rows of numbers: the laws' own comparisons, marks that are laid into one, and found again. -/
namespace Go.Proofs.Ythfmjjaollekiaa
open Go.RowKit
attribute [local go_sem ↓] Go.wp_at_zero Go.wp_at_succ

set_option maxHeartbeats 1000000 in
theorem markIntS_marks (g : Nat) (xs : List Int) (k ca : Nat) (w : World) (ha : WCells w g (ics xs)) (hn : k + xs.length ≤ 1000000000) (hca : xs.length ≤ ca) :
    Calls Try.prog 19 #[.slice (some ⟨g, 0, none⟩) xs.length ca, .int .i64 k] w fun e w' => e = .returned (.int .i64 (k + xs.length : Nat)) ∧ WCells w' g (ics (marksI k xs.length)) ∧ w.grownBy w' (some g) := by
  obtain ⟨n, hnx⟩ : ∃ n, n = xs.length := ⟨_, rfl⟩
  have HN : Hid (n = xs.length) := hnx
  rw [← hnx]
  rw [← hnx] at hn hca
  clear hnx
  have HA : Shut (WCells w g (ics xs)) := ⟨ha⟩
  clear ha
  go_enter Try.func19, Try.ntmps19
  go_wp2_with fail
  go_loopw [1, 5] (fun c i wr => ∃ (j : Nat) (ys : List Int), i = .int .i64 j ∧ c = .int .i64 (k + j : Nat) ∧ j ≤ n ∧ Shut (ys.length = n ∧ ∀ t, t < j → ys.getD t 0 = ((k + t : Nat) : Int)) ∧ Shut (WCells wr g (ics ys)) ∧ w.grownBy wr (some g)) (fun _ i _ => n - (intOf i).toNat)
  case atStart => exact ⟨0, xs, rfl, rfl, Nat.zero_le _, ⟨HN.out.symm, fun t ht => by omega⟩, HA, ⟨rfl, rfl, rfl, Nat.le_refl _, fun _ _ _ => rfl⟩⟩
  case round =>
    obtain ⟨j, ys, rfl, rfl, hj, hyl, hw, hgr⟩ := hrel
    by_cases hlt : j < n
    · have j0 : (0 : Int) ≤ (j : Int) := by omega
      have j1 : (j : Int) < (n : Int) := by omega
      obtain ⟨c0, z0⟩ := hw.out.2 j _ (ics_get ys j (by rw [hyl.out.1]; exact hlt))
      have hset := hw.out.set j (.int .i64 ((k : Int) + (j : Int))) (by rw [ics_len, hyl.out.1]; omega)
      rw [ics_set] at hset
      have HS : Shut (WCells (wr.setCell ⟨g, j, none⟩ (.int .i64 ((k : Int) + (j : Int)))) g (ics (ys.set j ((k : Int) + (j : Int))))) := ⟨hset⟩
      have HG : Hid (w.grownBy (wr.setCell ⟨g, j, none⟩ (.int .i64 ((k : Int) + (j : Int)))) (some g)) := gb_two' hgr (gb_set' wr g j _)
      have HY : Shut ((ys.set j ((k : Int) + (j : Int))).length = n ∧ ∀ t, t < j + 1 → (ys.set j ((k : Int) + (j : Int))).getD t 0 = ((k + t : Nat) : Int)) := ⟨by rw [List.length_set]; exact hyl.out.1, fun t ht => by
        by_cases e : t = j
        · subst e; simp [List.getD, show t < ys.length by rw [hyl.out.1]; exact hlt]
        · have := hyl.out.2 t (by omega)
          simpa [List.getD, List.getElem?_set, Ne.symm e] using this⟩
      clear hset hyl hgr hw
      go_wp2_with fail
      go_roundw
      case rel => exact ⟨j + 1, _, by go_num, congrArg (Value.int .i64) (by omega), by omega, HY, HS, HG.out⟩
      case measure => simp [intOf]; omega
    · have e : j = n := by omega
      subst e
      have ey : ys = marksI k j := by
        apply List.ext_getElem
        · rw [hyl.out.1, marksI_len]
        · intro t h1 h2
          have h3 := hyl.out.2 t (by rw [hyl.out.1] at h1; exact h1)
          have h4 := marksI_at k j t (by rw [hyl.out.1] at h1; exact h1)
          rw [← h4] at h3
          simpa [List.getD, h1, h2] using h3
      have HW : Shut (WCells wr g (ics (marksI k j))) := ⟨by rw [← ey]; exact hw.out⟩
      clear ey hyl hw
      go_wp2_with fail
      go_ret
      exact ⟨rfl, HW.out, hgr⟩
set_option maxHeartbeats 1000000 in
theorem heldIntS_marks (a : Option Addr) (k n ca : Nat) (w : World) (ha : CRow w a (ics (marksI k n))) (hn : k + n ≤ 1000000000) :
    Calls Try.prog 20 #[.slice a n ca, .int .i64 k] w fun e w' => e = .returned (.int .i64 (k + n : Nat)) ∧ Below w.heap.size w w' := by
  have HA : Hid (CRow w a (ics (marksI k n))) := ha
  clear ha
  go_enter Try.func20, Try.ntmps20
  go_wp2_with fail
  go_loopw [1, 5] (fun c i wr => ∃ (j : Nat), i = .int .i64 j ∧ c = .int .i64 (k + j : Nat) ∧ j ≤ n ∧ Below w.heap.size w wr) (fun _ i _ => n - (intOf i).toNat)
  case atStart => exact ⟨0, rfl, rfl, Nat.zero_le _, Below.refl _ _⟩
  case round =>
    obtain ⟨j, rfl, rfl, hj, hbl⟩ := hrel
    by_cases hlt : j < n
    · obtain ⟨b1, o1, rfl, l1, hc1⟩ := crow_int (HA.out.stays hbl) (by rw [marksI_len]; omega)
      have d0 := hc1 j (by rw [marksI_len]; exact hlt)
      rw [marksI_at k n j hlt] at d0
      have j0 : (0 : Int) ≤ (j : Int) := by omega
      have j1 : (j : Int) < (n : Int) := by omega
      have hbn : ∀ q, Below w.heap.size w (wr.drewN q) := fun q => hbl.trans ⟨rfl, rfl, rfl, Nat.le_refl _, fun _ _ => rfl⟩
      have HB0 : Hid (Below w.heap.size w wr) := hbl
      clear hc1 hbl
      go_wp2_with fail
      all_goals (try go_quiet (fail))
      all_goals go_wp2_with fail
      all_goals exact ⟨⟨j + 1, by go_num, congrArg (Value.int .i64) (by omega), by omega, by first | exact hbn _ | exact HB0.out⟩, by simp [intOf]; omega⟩
    · have e : j = n := by omega
      subst e
      go_wp2_with fail
      go_ret
      exact ⟨rfl, hbl⟩
end Go.Proofs.Ythfmjjaollekiaa
/- SpnE: Rows of numbers as values: their comparison, marks that are laid and found again. -/
namespace Go.Proofs.Ythfmjjaollekiaa
open Go.RowKit

theorem eqIntS_val {w : World} {v u : Value} {xs : List Int} {lo hi lo' hi' : Nat} (h : IAns w v xs lo hi) (k : IAns w u xs lo' hi') (hf : xs.length ≤ 1048576) : Calls Try.prog 16 #[v, u] w fun e w' => e = .returned (.bool true) ∧ Below w.heap.size w w' := by
  obtain ⟨a, cap, rfl, h1⟩ := h.crow
  obtain ⟨b, cap', rfl, h2⟩ := k.crow
  exact eqIntS_same a b xs cap cap' w h1 h2 hf
theorem markIntS_val {w : World} {v : Value} {xs : List Int} {lo hi : Nat} (k : Nat) (h : IAns w v xs lo hi) (hk : k + xs.length ≤ 100000000) :
    Calls Try.prog 19 #[v, .int .i64 k] w fun e w' => e = .returned (.int .i64 (k + xs.length : Nat)) ∧ IAns w' v (marksI k xs.length) lo hi ∧ Turned w w' lo hi := by
  obtain ⟨a, cap, rfl, hc, h1⟩ := h
  rcases h1 with rfl | ⟨g, rfl, q1, q2, hm⟩
  · refine (markIntS_none a k cap w).mono ?_
    rintro e w' ⟨rfl, rfl⟩
    exact ⟨rfl, ⟨a, cap, by rw [marksI_len], by rw [marksI_len]; exact Nat.zero_le _, .inl rfl⟩, Turned.refl _ _ _⟩
  · refine (markIntS_marks g xs k cap w hm (by omega) hc).mono ?_
    rintro e w' ⟨rfl, hw, hg⟩
    exact ⟨rfl, ⟨_, cap, by rw [marksI_len], by rw [marksI_len]; exact hc, .inr ⟨g, rfl, q1, q2, hw⟩⟩, Turned.of_grown hg q1 q2⟩
theorem heldIntS_val {w : World} {v : Value} {k n lo hi : Nat} (h : IAns w v (marksI k n) lo hi) (hk : k + n ≤ 100000000) :
    Calls Try.prog 20 #[v, .int .i64 k] w fun e w' => e = .returned (.int .i64 (k + n : Nat)) ∧ Below w.heap.size w w' := by
  obtain ⟨a, cap, rfl, h1⟩ := h.crow
  rw [marksI_len]
  exact heldIntS_marks a k n cap w h1 (by omega)
theorem spansX_len (s n : Int) : (spansX s n).length ≤ 1001 := by
  unfold spansX
  split
  · rename_i h
    unfold spanL
    rw [List.length_append, List.length_replicate, List.length_singleton]
    have := Nat.div_le_self (n.toNat - 1) (groupN s)
    omega
  · exact Nat.zero_le _
end Go.Proofs.Ythfmjjaollekiaa
/- OpenC: The code that a drawn law is handed: what came in. -/
namespace Go.Proofs.Ythfmjjaollekiaa
open Go.RowKit Go.ChangeShapes Go.WideShapes
set_option maxRecDepth 100000 in
theorem open_code {H : Type} {enc : TypeId × Value → H} {W : World} {r : Reach} {b0 base : Nat} {held : Bool} {v : Value} {d : DataW H} {p : List MemPlace}
    (hv : Value.okWide Try.prog W r b0 22 v) (h : DataW.Trod enc Try.prog W base (fun _ => true) held 22 v d p) : ∃ a len cap, v = .slice a len cap ∧ (len ≤ 1048576 → CodeAt W W.heap.size a len) := by
  obtain ⟨a0, l0, c0, rfl⟩ := okWide_slice Try.underlying22 hv
  refine ⟨a0, l0, c0, rfl, fun hl => ?_⟩
  obtain ⟨fuel, hf⟩ := h
  rcases open_ints Try.underlying22 Try.underlying5 (by kernel_rfl) hf with ⟨hcs, _⟩ | ⟨x, l, c, zs, hcs, _, hl', hm, hz, _, hcell, hwz⟩
  · simp [Value.cells] at hcs
    obtain ⟨rfl, rfl, rfl⟩ := hcs
    exact code_at (cap := 0) (zs := []) hl (.inl ⟨rfl, rfl⟩)
  · simp [Value.cells] at hcs
    obtain ⟨rfl, rfl, rfl⟩ := hcs
    exact code_at (cap := c0) (zs := zs) hl (.inr ⟨_, rfl, hl', by simpa using hz, hcell, hwz⟩)
end Go.Proofs.Ythfmjjaollekiaa
