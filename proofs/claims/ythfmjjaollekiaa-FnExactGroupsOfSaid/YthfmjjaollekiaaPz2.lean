/- Texts of ours, laid one behind the other: StrsB, TreG, TreH, TreI, SchZ, Words, VarL, SpnA, PathM, TreM, TreP. -/
import Derived.Test.YthfmjjaollekiaaPz1
import Derived.Deep.RegionHeld3
import Derived.Deep.DrawnRows
import Derived.Deep.CutRange
import Derived.BigQuiet
import Derived.PlainAid
/- StrsB: Slices of strings: marks that are laid into one, and found again. -/
namespace Go.Proofs.Ythfmjjaollekiaa
set_option maxRecDepth 100000
open Go.RowKit
attribute [local go_sem ↓] Go.wp_at_zero Go.wp_at_succ

/-- The text of a mark. -/
def mt (k : Nat) : ByteArray := (⟨#[109]⟩ : ByteArray) ++ ⟨(W.decS k).toArray⟩

set_option maxHeartbeats 400000 in
theorem markText_any (n : Nat) (w : World) (hn : 0 < n) (hm : n ≤ 1000000000) :
    Calls Try.prog 54 #[.int .i64 n] w fun e w' => e = .returned (.string (mt n)) ∧ Below w.heap.size w w' := by
  have h0 : decide ((n : Int) ≤ 0) = false := by simp; omega
  have hl := W.dg_len 20 n (by omega)
  go_enter Try.func54, Try.ntmps54
  go_wp2_with fail
  go_loopw [0, 3] (fun i v wr => ∃ (m : Nat) (s : ByteArray), i = .int .i64 m ∧ v = .string s ∧ m ≤ n ∧ W.dg m ++ s.data.toList = W.dg n ∧ Below w.heap.size w wr) (fun i _ _ => (intOf i).toNat)
  case atStart => exact ⟨n, ⟨#[]⟩, rfl, rfl, Nat.le_refl _, by simp, Below.refl _ _⟩
  case round =>
    obtain ⟨m, s, rfl, rfl, hmn, hs, hb⟩ := hrel
    have HS : Hid (W.dg m ++ s.data.toList = W.dg n) := hs
    have hsz : s.size ≤ 20 := by have := congrArg List.length hs; simp at this; have e : s.data.size = s.size := rfl; omega
    clear hs
    by_cases hz : m = 0
    · subst hz
      have hst : mt n = (⟨#[109]⟩ : ByteArray) ++ s := by
        have := HS.out
        rw [W.dg_zero, List.nil_append] at this
        unfold mt W.decS
        rw [if_neg (by omega), ← this]
      have HT : Hid _ := hst
      clear hst
      go_wp2_with fail
      go_ret
      refine ⟨?_, hb⟩
      rw [HT.out]
      rfl
    · have hp : 0 < m := by omega
      have hB := hb.size
      have ho := oneB_size (48 + (m : Int) % 10)
      have hcv := one_byte wr (48 + (m : Int) % 10) (by omega) (by omega)
      go_wp2_with fail
      go_roundw
      case rel => exact ⟨m / 10, _, by go_num, rfl, by omega, dg_more hp HS.out _ (by omega), hb.alloc hB _⟩
      case measure => simp [intOf]; omega
theorem markText_int (x : Int) (w : World) (h0 : 0 < x) (h1 : x ≤ 1000000000) :
    Calls Try.prog 54 #[.int .i64 x] w fun e w' => e = .returned (.string (mt x.toNat)) ∧ Below w.heap.size w w' := by
  obtain ⟨n, rfl⟩ := Int.eq_ofNat_of_zero_le (Int.le_of_lt h0)
  exact markText_any n w (by omega) (by omega)

/-- Marks from k on. -/
def marks (k n : Nat) : List ByteArray := (List.range n).map fun j => mt (k + j)
theorem marks_len (k n : Nat) : (marks k n).length = n := by simp [marks]
theorem marks_at (k n j : Nat) (h : j < n) : (marks k n).getD j ⟨#[]⟩ = mt (k + j) := by simp [marks, List.getD, h]

/-- A row of strings that may be written. -/
def WRow (w : World) (g : Nat) (xs : List ByteArray) : Prop :=
  g < w.heap.size ∧ ∀ j, j < xs.length → w.cell? ⟨g, j, none⟩ = some (.string (xs.getD j ⟨#[]⟩)) ∧ w.frozen? ⟨g, j, none⟩ = false
theorem WRow.srow {w : World} {g : Nat} {xs : List ByteArray} (h : WRow w g xs) : SRow w (some ⟨g, 0, none⟩) xs := fun _ => ⟨g, rfl, h.1, fun j hj => (h.2 j hj).1⟩
theorem WRow.below {w w' : World} {g B : Nat} {xs : List ByteArray} (h : WRow w g xs) (hb : Below B w w') (hg : g < B) : WRow w' g xs :=
  ⟨Nat.lt_of_lt_of_le h.1 hb.size, fun j hj => ⟨(hb.cell (p := ⟨g, j, none⟩) hg).trans (h.2 j hj).1, (hb.frozen (p := ⟨g, j, none⟩) hg).trans (h.2 j hj).2⟩⟩
theorem WRow.set {w : World} {g : Nat} {xs : List ByteArray} (h : WRow w g xs) (i : Nat) (x : ByteArray) (hi : i < xs.length) : WRow (w.setCell ⟨g, i, none⟩ (.string x)) g (xs.set i x) := by
  refine ⟨by have := h.1; simpa [World.setCell] using this, fun j hj => ?_⟩
  rw [List.length_set] at hj
  refine ⟨?_, (World.frozen?_setCell _ _ _ _).trans (h.2 j hj).2⟩
  by_cases e : j = i
  · subst e
    rw [World.cell?_setCell_same _ _ _ (h.2 j hj).1]
    simp [List.getD, hi]
  · rw [World.cell?_setCell_other _ _ _ _ (by first | (simp; done) | (simp; omega)), (h.2 j hj).1]
    simp [List.getD, Ne.symm e]
theorem grownBy_setCell (w : World) (g i : Nat) (v : Value) : w.grownBy (w.setCell ⟨g, i, none⟩ v) (some g) :=
  ⟨rfl, rfl, rfl, by simp [World.setCell], fun k _ hk => Below.heap_setCell _ _ _ _ (fun e => hk (by rw [e]))⟩
theorem grownBy_below {w w' : World} {g : Nat} (h : Below w.heap.size w w') : w.grownBy w' (some g) := ⟨h.os, h.tape, h.output, h.size, fun k hk _ => h.block k hk⟩
theorem grownBy_two {a b c : World} {g : Nat} (h : a.grownBy b (some g)) (k : b.grownBy c (some g)) : a.grownBy c (some g) :=
  ⟨k.os.trans h.os, k.tape.trans h.tape, k.output.trans h.output, Nat.le_trans h.size k.size, fun i hi hn => (k.block i (Nat.lt_of_lt_of_le hi h.size) hn).trans (h.block i hi hn)⟩

theorem set_marks {k j : Nat} {ys : List ByteArray} (h : ∀ t, t < j → ys.getD t ⟨#[]⟩ = mt (k + t)) (hj : j < ys.length) : ∀ t, t < j + 1 → (ys.set j (mt (k + j))).getD t ⟨#[]⟩ = mt (k + t) := by
  intro t ht
  by_cases e : t = j
  · subst e; simp [List.getD, hj]
  · have := h t (by omega)
    simpa [List.getD, List.getElem?_set, Ne.symm e] using this
theorem wrow_marks {w : World} {g k n : Nat} {ys : List ByteArray} (h : WRow w g ys) (hl : ys.length = n) (hy : ∀ t, t < n → ys.getD t ⟨#[]⟩ = mt (k + t)) : WRow w g (marks k n) := by
  refine ⟨h.1, fun j hj => ?_⟩
  rw [marks_len] at hj
  have := h.2 j (by omega)
  rw [marks_at k n j hj, ← hy j hj]
  exact this
end Go.Proofs.Ythfmjjaollekiaa
/- TreG: Marks over trees: plain, and what marking turns in memory. -/
namespace Go.Proofs.Ythfmjjaollekiaa
set_option maxRecDepth 100000
open Go.RowKit

def markPs (k n : Nat) : List PM := (List.range n).map fun i => ⟨((k + 2 * i : Nat) : Int), ((k + 2 * i + 1 : Nat) : Int)⟩
theorem markPs_len (k n : Nat) : (markPs k n).length = n := by simp [markPs]
def markDir (k : Nat) : Bool := decide (k % 3 = 0)
def markN (k np : Nat) : NM := ⟨(k : Int), ((k + 1 : Nat) : Int), mt (k + 2), markDir (k + 3), ((k + 4 : Nat) : Int), ((k + 5 : Nat) : Int), ((k + 6 : Nat) : Int), markPs (k + 7) np, ((k + 7 + 2 * np : Nat) : Int)⟩
/-- A row of nodes, marked from k on. -/
def markRs (k : Nat) : List NR → List NR
  | [] => []
  | r :: rs => ⟨markN k r.nd.pieces.length, r.loc, r.cap⟩ :: markRs (k + 8 + 2 * r.nd.pieces.length) rs
/-- Where the marks end. -/
def markK (k : Nat) : List NM → Nat
  | [] => k
  | n :: ns => markK (k + 8 + 2 * n.pieces.length) ns
theorem markRs_len (k : Nat) (rs : List NR) : (markRs k rs).length = rs.length := by
  induction rs generalizing k with
  | nil => rfl
  | cons r rs ih => simp only [markRs, List.length_cons, ih]
theorem markK_snoc (k : Nat) (ns : List NM) (n : NM) : markK k (ns ++ [n]) = markK k ns + 8 + 2 * n.pieces.length := by
  induction ns generalizing k with
  | nil => rfl
  | cons x ns ih => simp only [List.cons_append, markK, ih]
theorem markRs_snoc (k : Nat) (rs : List NR) (r : NR) : markRs k (rs ++ [r]) = markRs k rs ++ [⟨markN (markK k (nds rs)) r.nd.pieces.length, r.loc, r.cap⟩] := by
  induction rs generalizing k with
  | nil => rfl
  | cons x rs ih => simp only [List.cons_append, markRs, ih, nds, List.map_cons, markK]
theorem markK_le (k : Nat) (ns : List NM) : k ≤ markK k ns ∧ markK k ns ≤ k + 8 * ns.length + 2 * nsum ns := by
  induction ns generalizing k with
  | nil => simp [markK, nsum]
  | cons n ns ih => have := ih (k + 8 + 2 * n.pieces.length); simp only [markK, nsum, List.length_cons]; omega
theorem markK_low (k : Nat) (ns : List NM) : k + ns.length ≤ markK k ns := by
  induction ns generalizing k with
  | nil => simp [markK]
  | cons n ns ih => simp only [List.length_cons, markK]; have := ih (k + 8 + 2 * n.pieces.length); omega
theorem markK_part (k : Nat) (ns : List NM) (i : Nat) : markK k (ns.take i) ≤ markK k ns := by
  induction ns generalizing k i with
  | nil => simp
  | cons n ns ih =>
    cases i with
    | zero => simp only [List.take_zero]; exact (markK_le k _).1
    | succ i => simp only [List.take_succ_cons, markK]; exact ih _ _
theorem ncs_get (ts : List NR) (j : Nat) (h : j < ts.length) (i : Nat) (hi : i < 9) : (ncs ts)[j * 9 + i]? = (ncells ts[j])[i]? := flat_get ncells_len ts j h i hi
/-- One cell of one node is another. -/
theorem ncs_set1 (ts : List NR) (i : Nat) (hi : i < ts.length) (f : Nat) (hf : f < 9) (r : NR) (v : Value) (h1 : (ncells r)[f]? = some v) (h2 : ∀ q, q < 9 → q ≠ f → (ncells r)[q]? = (ncells ts[i])[q]?) : (ncs ts).set (i * 9 + f) v = ncs (ts.set i r) := by
  have hlen : (ncs ts).length = ts.length * 9 := ncs_len ts
  apply List.ext_getElem?
  intro n
  by_cases hn : n < ts.length * 9
  · have hs := flat_set ncells_len ts i hi r n hn
    show _ = ((ts.set i r).flatMap ncells)[n]?
    rw [hs]
    have hm := Nat.mod_lt n (show 0 < 9 by decide)
    have he : n = n / 9 * 9 + n % 9 := by omega
    by_cases e : n = i * 9 + f
    · have e1 : n / 9 = i := by omega
      have e2 : n % 9 = f := by omega
      rw [if_pos e1, e2, h1, ← e, List.getElem?_set_self (by rw [hlen]; exact hn)]
    · rw [List.getElem?_set_ne (by omega)]
      by_cases e1 : n / 9 = i
      · rw [if_pos e1, h2 _ hm (by omega)]
        have := ncs_get ts i hi (n % 9) hm
        rw [← this]
        congr 1
        omega
      · rw [if_neg e1]; rfl
  · rw [List.getElem?_eq_none (by rw [List.length_set, hlen]; omega), List.getElem?_eq_none (by rw [ncs_len, List.length_set]; omega)]
theorem apart_set {rs : List NR} (h : rs.Pairwise fun r s => NKind.inn r ≠ [] → NKind.inn s ≠ [] → NKind.loc r ≠ NKind.loc s) (j : Nat) (hj : j < rs.length) (r : NR) (hi : pcs r.nd.pieces ≠ [] → pcs rs[j].nd.pieces ≠ []) (hl : r.loc = rs[j].loc) : (rs.set j r).Pairwise fun r s => NKind.inn r ≠ [] → NKind.inn s ≠ [] → NKind.loc r ≠ NKind.loc s := by
  have ha := List.pairwise_iff_getElem.1 h
  refine List.pairwise_iff_getElem.2 (fun a b ha' hb' hab h1 h2 => ?_)
  rw [List.length_set] at ha' hb'
  rw [List.getElem_set] at h1 ⊢
  rw [List.getElem_set] at h2 ⊢
  by_cases ea : j = a
  · subst ea
    rw [if_pos rfl] at h1 ⊢
    rw [if_neg (by omega)] at h2 ⊢
    show r.loc ≠ _
    rw [hl]
    exact ha j b ha' hb' hab (hi h1) h2
  · rw [if_neg ea] at h1 ⊢
    by_cases eb : j = b
    · subst eb
      rw [if_pos rfl] at h2 ⊢
      show _ ≠ r.loc
      rw [hl]
      exact ha a j ha' hb' hab h1 (hi h2)
    · rw [if_neg eb] at h2 ⊢
      exact ha a b ha' hb' hab h1 h2
theorem TW.cell {w : World} {g : Nat} {ts : List NR} {lo hi : Nat} (h : TW w g ts lo hi) (i : Nat) (hi' : i < ts.length) (f : Nat) (hf : f < 9) (r : NR) (v : Value) (h1 : (ncells r)[f]? = some v) (h2 : ∀ q, q < 9 → q ≠ f → (ncells r)[q]? = (ncells ts[i])[q]?)
    (hin : r.nd.pieces = ts[i].nd.pieces) (hloc : r.loc = ts[i].loc) : TW (w.setCell ⟨g, i * 9 + f, none⟩ v) g (ts.set i r) lo hi := by
  have hout := h.out.set (i * 9 + f) v (by rw [NKind.cells_len]; show i * 9 + f < ts.length * 9; omega)
  have e : (NKind.cells ts).set (i * 9 + f) v = NKind.cells (ts.set i r) := ncs_set1 ts i hi' f hf r v h1 h2
  rw [e] at hout
  refine ⟨hout, h.glo, h.ghi, fun s hs => ?_, apart_set h.apart i hi' r (fun q => by rw [← hin]; exact q) hloc⟩
  have key : ∀ s ∈ ts, NKind.inn s = [] ∨ ∃ b, NKind.loc s = some ⟨b, 0, none⟩ ∧ lo ≤ b ∧ b < hi ∧ b ≠ g ∧ WCells (w.setCell ⟨g, i * 9 + f, none⟩ v) b (NKind.inn s) := fun s hs => by
    rcases h.rows s hs with q | ⟨b, e, q1, q2, q3, q4⟩
    · exact .inl q
    · exact .inr ⟨b, e, q1, q2, q3, q4.other _ _ q3⟩
  rcases List.mem_or_eq_of_mem_set hs with q | q
  · exact key s q
  · subst q
    have := key ts[i] (List.getElem_mem hi')
    show pcs s.nd.pieces = [] ∨ ∃ b, s.loc = _ ∧ _ ∧ _ ∧ _ ∧ WCells _ b (pcs s.nd.pieces)
    rw [hin, hloc]
    exact this
theorem TW.cell' {w : World} {g : Nat} {ts : List NR} {lo hi : Nat} (h : TW w g ts lo hi) (i : Nat) (hi' : i < ts.length) (r0 : NR) (hat : ts[i] = r0) (f : Nat) (hf : f < 9) (r : NR) (v : Value) (h1 : (ncells r)[f]? = some v) (h2 : ∀ q, q < 9 → q ≠ f → (ncells r)[q]? = (ncells r0)[q]?)
    (hin : r.nd.pieces = r0.nd.pieces) (hloc : r.loc = r0.loc) : TW (w.setCell ⟨g, i * 9 + f, none⟩ v) g (ts.set i r) lo hi := by
  subst hat
  exact h.cell i hi' f hf r v h1 h2 hin hloc
theorem TW.pieces {w w2 : World} {g : Nat} {ts : List NR} {lo hi : Nat} (h : TW w g ts lo hi) (i : Nat) (hi' : i < ts.length) (b : Nat) (hb : ts[i].loc = some ⟨b, 0, none⟩) (hne : ts[i].nd.pieces ≠ []) (r : NR) (hc : ncells r = ncells ts[i]) (hloc : r.loc = ts[i].loc)
    (hw : WCells w2 b (pcs r.nd.pieces)) (hg : w.grownBy w2 (some b)) : TW w2 g (ts.set i r) lo hi := by
  obtain ⟨b', e', p1, p2, p3, p4⟩ : ∃ b, ts[i].loc = some ⟨b, 0, none⟩ ∧ lo ≤ b ∧ b < hi ∧ b ≠ g ∧ WCells w b (pcs ts[i].nd.pieces) := by
    rcases h.rows ts[i] (List.getElem_mem hi') with q | q
    · exact absurd q (pcs_ne hne)
    · exact q
  have eb : b' = b := congrArg Addr.block (Option.some.inj (e'.symm.trans hb))
  subst eb
  have hcs : NKind.cells (ts.set i r) = NKind.cells ts := by
    show (ts.set i r).flatMap ncells = ts.flatMap ncells
    apply List.ext_getElem?
    intro n
    by_cases hn : n < ts.length * 9
    · rw [flat_set ncells_len ts i hi' r n hn]
      split
      · rename_i e
        rw [hc]
        have := ncs_get ts i hi' (n % 9) (Nat.mod_lt n (by decide))
        rw [← this]
        show (ncs ts)[_]? = (ncs ts)[_]?
        congr 1
        omega
      · rfl
    · rw [List.getElem?_eq_none (by have := flat_len ncells_len (ts.set i r); rw [List.length_set] at this; omega), List.getElem?_eq_none (by have := flat_len ncells_len ts; omega)]
  refine ⟨by rw [hcs]; exact h.out.apart hg (Ne.symm p3), h.glo, h.ghi, fun s hs => ?_, apart_set h.apart i hi' r (fun _ => pcs_ne hne) hloc⟩
  obtain ⟨j, hj, rfl⟩ := List.mem_iff_getElem.1 hs
  rw [List.length_set] at hj
  rw [List.getElem_set]
  by_cases e : i = j
  · rw [if_pos e]
    exact .inr ⟨b', by show r.loc = _; rw [hloc, hb], p1, p2, p3, hw⟩
  · rw [if_neg e]
    rcases h.rows ts[j] (List.getElem_mem hj) with q | ⟨c, e2, q1, q2, q3, q4⟩
    · exact .inl q
    · by_cases hq : NKind.inn ts[j] = []
      · exact .inl hq
      · have hap : ts[i].loc ≠ ts[j].loc := by
          have ha := List.pairwise_iff_getElem.1 h.apart
          by_cases hij : i < j
          · exact ha i j hi' hj hij (pcs_ne hne) hq
          · exact (ha j i hj hi' (by omega) hq (pcs_ne hne)).symm
        have hcb : c ≠ b' := fun q => hap (by rw [hb, ← q]; exact e2.symm)
        exact .inr ⟨c, e2, q1, q2, q3, q4.apart hg hcb⟩
end Go.Proofs.Ythfmjjaollekiaa
/- TreH: Marks that are laid into trees (written by gen/mktreh.py). -/
namespace Go.Proofs.Ythfmjjaollekiaa
set_option maxRecDepth 100000
open Go.RowKit
attribute [local go_sem ↓] Go.wp_at_zero Go.wp_at_succ

theorem markPieceS_none (a : Option Addr) (k ca : Nat) (w : World) : Calls Try.prog 55 #[.slice a 0 ca, .int .i64 k] w fun e w' => e = .returned (.int .i64 k) ∧ w' = w := by
  go_enter Try.func55, Try.ntmps55
  go_wp2_with fail
  go_rounds 1
  go_ret
  exact ⟨rfl, rfl⟩
theorem markPs_at (k n j : Nat) (h : j < n) : (markPs k n)[j]'(by rw [markPs_len]; exact h) = ⟨((k + 2 * j : Nat) : Int), ((k + 2 * j + 1 : Nat) : Int)⟩ := by simp [markPs]
set_option maxHeartbeats 1000000 in
theorem markPieceS_any (g : Nat) (ps : List PM) (k ca : Nat) (w : World) (ha : WCells w g (pcs ps)) (hn : k + 2 * ps.length ≤ 1000000000) :
    Calls Try.prog 55 #[.slice (some ⟨g, 0, none⟩) ps.length ca, .int .i64 k] w fun e w' => e = .returned (.int .i64 (k + 2 * ps.length : Nat)) ∧ WCells w' g (pcs (markPs k ps.length)) ∧ w.grownBy w' (some g) := by
  obtain ⟨n, hnx⟩ : ∃ n, n = ps.length := ⟨_, rfl⟩
  have HN := Shut.mk hnx
  rw [← hnx] at hn ⊢
  have HA := Shut.mk ha
  clear hnx ha
  go_enter Try.func55, Try.ntmps55
  go_wp2_with fail
  go_loopw [1, 5] (fun c i wr => ∃ (j cc : Nat) (gs : List PM), i = .int .i64 j ∧ c = .int .i64 cc ∧ cc ≤ 1000000000 ∧ j ≤ n ∧ Shut (cc = k + 2 * j ∧ gs.length = n ∧ gs.take j = (markPs k n).take j) ∧ Shut (WCells wr g (pcs gs)) ∧ Shut (w.grownBy wr (some g))) (fun _ i _ => n - (intOf i).toNat)
  case atStart => exact ⟨0, k, ps, rfl, rfl, by omega, Nat.zero_le _, ⟨rfl, HN.out.symm, rfl⟩, HA, ⟨⟨rfl, rfl, rfl, Nat.le_refl _, fun _ _ _ => rfl⟩⟩⟩
  case round =>
    clear HA
    obtain ⟨j, c, gs, rfl, rfl, hc9, hj, HG, hw, hgr⟩ := hrel
    by_cases hlt : j < n
    · have j0 : (0 : Int) ≤ (j : Int) := by omega
      have j1 : (j : Int) < (n : Int) := by omega
      have hgk : j < gs.length := by have := HG.out.2.1; omega
      obtain ⟨c1, e1⟩ : ∃ c1, c1 = c + 1 := ⟨_, rfl⟩
      obtain ⟨c2, e2⟩ : ∃ c2, c2 = c + 2 := ⟨_, rfl⟩
      have HC := Shut.mk (And.intro e1 e2)
      have i1 : (c : Int) + 1 = (c1 : Int) := by omega
      have i2 : (c1 : Int) + 1 = (c2 : Int) := by omega
      have hb1 : c1 ≤ 1000000001 := by omega
      have hb2 : c2 ≤ 1000000000 := by have := HG.out.1; omega
      obtain ⟨x0, z0⟩ := hw.out.2 (j * 2) _ (flat_get pcells_len gs j hgk 0 (by omega))
      obtain ⟨x1, z1⟩ := hw.out.2 (j * 2 + 1) _ (flat_get pcells_len gs j hgk 1 (by omega))
      have HS := Shut.mk (hw.out.setElem pcells_len j hgk ⟨(c : Int), (c1 : Int)⟩)
      have HGR := Shut.mk (gb_two' (gb_two' hgr.out (gb_set' wr g (j * 2) (.int .i64 (c : Int)))) (gb_set' _ g (j * 2 + 1) (.int .i64 (c1 : Int))))
      clear e1 e2 hw hgr
      go_wp2_with fail
      go_roundw
      case rel =>
        refine ⟨j + 1, c2, gs.set j ⟨(c : Int), (c1 : Int)⟩, by go_num, rfl, hb2, by omega, ⟨by have := HG.out.1; have := HC.out.2; omega, by rw [List.length_set]; exact HG.out.2.1, ?_⟩, HS, HGR⟩
        have hjm : j < (markPs k n).length := by rw [markPs_len]; exact hlt
        rw [List.take_succ_eq_append_getElem (by rw [List.length_set]; exact hgk), List.take_succ_eq_append_getElem hjm, List.take_set_of_le (Nat.le_refl _), HG.out.2.2, List.getElem_set_self, markPs_at k n j hlt]
        have h1 := HG.out.1
        have h2 := HC.out.1
        rw [h2, h1]
      case measure => simp [intOf]; omega
    · have e : gs = markPs k n := by
        have h := HG.out.2.2
        rw [List.take_of_length_le (by have := HG.out.2.1; omega), List.take_of_length_le (by rw [markPs_len]; omega)] at h; exact h
      have hjn : j = n := by omega
      have HF : Shut (WCells wr g (pcs (markPs k n))) := ⟨by rw [← e]; exact hw.out⟩
      have HE : Shut (c = k + 2 * n) := ⟨by have := HG.out.1; omega⟩
      have hlt' : ¬ (j : Int) < (n : Int) := by omega
      clear e hjn hw HG
      go_wp2_with fail
      go_ret
      exact ⟨congrArg (fun x : Int => Ending.returned (.int .i64 x)) (show (c : Int) = _ by have := HE.out; omega), HF.out, hgr.out⟩
/-- What the marks leave of a row of nodes. -/
def MarkNodes (g k : Nat) (rs : List NR) (lo hi : Nat) (w : World) (e : Ending) (w' : World) : Prop := e = .returned (.int .i64 (markK k (nds rs) : Nat)) ∧ TW w' g (markRs k rs) lo hi ∧ Turned w w' lo hi
theorem dir_is (c : Nat) : ((c : Int) % 3 == 0) = markDir c := by
  unfold markDir
  rw [Bool.eq_iff_iff]
  simp only [beq_iff_eq, decide_eq_true_eq]
  omega
theorem dir_is' (c : Nat) : ((c : Int).tmod 3 == 0) = markDir c := by rw [Int.tmod_eq_emod_of_nonneg (by omega)]; exact dir_is c
set_option maxRecDepth 100000 in
set_option maxHeartbeats 8000000 in
theorem markInodeS_any (g : Nat) (rs : List NR) (k ca : Nat) (w : World) (lo hi : Nat) (hm : TW w g rs lo hi) (hk : 1 ≤ k) (hn : markK k (nds rs) ≤ 50000000) :
    Calls Try.prog 38 #[.slice (some ⟨g, 0, none⟩) rs.length ca, .int .i64 k] w fun e w' => MarkNodes g k rs lo hi w e w' := by
  obtain ⟨n, hnx⟩ : ∃ n, n = rs.length := ⟨_, rfl⟩
  have HN := Shut.mk hnx
  have HK := Shut.mk hn
  have hn9 : n ≤ 50000000 := by
    have := markK_low k (nds rs)
    rw [nds_len] at this
    omega
  have hglo := hm.glo
  have hghi := hm.ghi
  rw [← hnx]
  have HA := Shut.mk hm
  clear hnx hm hn
  go_enter Try.func38, Try.ntmps38
  go_wp2_with fail
  go_loopw [1, 5] (fun cv iv wr => ∃ (i c : Nat) (ts : List NR), iv = .int .i64 i ∧ cv = .int .i64 c ∧ c ≤ 50000000 ∧ 1 ≤ c ∧ i ≤ n ∧ Shut (c = markK k (nds (rs.take i)) ∧ ts = markRs k (rs.take i) ++ rs.drop i) ∧ Shut (TW wr g ts lo hi ∧ Turned w wr lo hi)) (fun _ iv _ => n - (intOf iv).toNat)
  case atStart => exact ⟨0, k, rs, rfl, rfl, by have := HK.out; have := (markK_le k (nds rs)).1; omega, hk, Nat.zero_le _, ⟨rfl, by simp [markRs]⟩, ⟨HA.out, Turned.refl _ _ _⟩⟩
  case round =>
    clear HA
    obtain ⟨i, c, ts, rfl, rfl, hc9, hc1, hin, HG, HT⟩ := hrel
    by_cases hlt : i < n
    · have j0 : (0 : Int) ≤ (i : Int) := by omega
      have j1 : (i : Int) < (n : Int) := by omega
      have hlr : i < rs.length := by have := HN.out; omega
      have hml : (markRs k (rs.take i)).length = i := by rw [markRs_len, List.length_take]; omega
      have htl : ts.length = n := by rw [HG.out.2, List.length_append, hml, List.length_drop, HN.out]; omega
      have hits : i < ts.length := by omega
      have hat : ts[i] = rs[i] := by
        simp only [HG.out.2]
        rw [List.getElem_append_right (by omega)]
        simp only [hml, Nat.sub_self, List.getElem_drop, Nat.add_zero]
      have hset : ts = ts.set i rs[i] := by rw [← hat, List.set_getElem_self]
      have hnext : markRs k (rs.take (i + 1)) ++ rs.drop (i + 1) = ts.set i ⟨markN c rs[i].nd.pieces.length, rs[i].loc, rs[i].cap⟩ := by
        rw [List.take_succ_eq_append_getElem hlr, markRs_snoc, HG.out.2, ← HG.out.1, List.append_assoc, List.set_append, if_neg (by omega)]
        congr 1
        rw [hml, Nat.sub_self, List.drop_eq_getElem_cons hlr]
        rfl
      have hck : markK k (nds (rs.take (i + 1))) = c + 8 + 2 * rs[i].nd.pieces.length := by rw [List.take_succ_eq_append_getElem hlr, nds_snoc, markK_snoc, ← HG.out.1]
      have hcb : markK k (nds (rs.take (i + 1))) ≤ 50000000 := by
        have := markK_part k (nds rs) (i + 1)
        have e : (nds rs).take (i + 1) = nds (rs.take (i + 1)) := by unfold nds; rw [List.map_take]
        rw [e] at this
        have := HK.out
        omega
      rcases hr : rs[i] with ⟨⟨id, parent, name, dir, schema, quota, len, pieces, writer⟩, loc, cap⟩
      rw [hr] at hat hset hnext hck
      dsimp only at hnext hck
      obtain ⟨np, hnp⟩ : ∃ np, np = pieces.length := ⟨_, rfl⟩
      rw [← hnp] at hnext hck
      rw [hset] at HT
      obtain ⟨c1, e1⟩ : ∃ c1, c1 = c + 1 := ⟨_, rfl⟩
      obtain ⟨c2, e2⟩ : ∃ c2, c2 = c + 2 := ⟨_, rfl⟩
      obtain ⟨c3, e3⟩ : ∃ c3, c3 = c + 3 := ⟨_, rfl⟩
      obtain ⟨c4, e4⟩ : ∃ c4, c4 = c + 4 := ⟨_, rfl⟩
      obtain ⟨c5, e5⟩ : ∃ c5, c5 = c + 5 := ⟨_, rfl⟩
      obtain ⟨c6, e6⟩ : ∃ c6, c6 = c + 6 := ⟨_, rfl⟩
      obtain ⟨c7, e7'⟩ : ∃ c7, c7 = c + 7 := ⟨_, rfl⟩
      obtain ⟨e7, h7⟩ : ∃ e7, e7 = c + 7 + 2 * np := ⟨_, rfl⟩
      obtain ⟨e8, h8⟩ : ∃ e8, e8 = c + 8 + 2 * np := ⟨_, rfl⟩
      have i1 : (c : Int) + 1 = (c1 : Int) := by omega
      have i2 : (c1 : Int) + 1 = (c2 : Int) := by omega
      have i3 : (c2 : Int) + 1 = (c3 : Int) := by omega
      have i4 : (c3 : Int) + 1 = (c4 : Int) := by omega
      have i5 : (c4 : Int) + 1 = (c5 : Int) := by omega
      have i6 : (c5 : Int) + 1 = (c6 : Int) := by omega
      have i7 : (c6 : Int) + 1 = (c7 : Int) := by omega
      have i8 : (e7 : Int) + 1 = (e8 : Int) := by omega
      have q1 : c1 ≤ 60000000 := by omega
      have q2 : c2 ≤ 60000000 := by omega
      have q3 : c3 ≤ 60000000 := by omega
      have q4 : c4 ≤ 60000000 := by omega
      have q5 : c5 ≤ 60000000 := by omega
      have q6 : c6 ≤ 60000000 := by omega
      have q7 : c7 ≤ 60000000 := by omega
      have q8 : e7 ≤ 60000000 := by omega
      have q9 : e8 ≤ 50000000 := by omega
      have HMT := Shut.mk (fun W => markText_any c2 W (by omega) (by omega))
      have HNX : Shut (e8 = markK k (nds (rs.take (i + 1))) ∧ ts.set i ⟨⟨(c : Int), (c1 : Int), mt c2, markDir c3, (c4 : Int), (c5 : Int), (c6 : Int), markPs c7 np, (e7 : Int)⟩, loc, cap⟩ = markRs k (rs.take (i + 1)) ++ rs.drop (i + 1)) := ⟨by omega, by rw [hnext]; unfold markN; rw [e1, e2, e3, e4, e5, e6, e7', h7]⟩
      have hd1 := dir_is c3
      have hd2 := dir_is' c3
      have HE7 := Shut.mk (show e7 = c7 + 2 * np by omega)
      generalize mt c2 = T2 at *
      generalize markDir c3 = D3 at *
      have HNP := Shut.mk hnp
      clear hat hset hnext hck hcb hr htl hml e1 e2 e3 e4 e5 e6 e7' h7 h8 hnp HG
      obtain ⟨x0, z0⟩ := HT.out.1.out.2 (i * 9 + 0) _ (by rw [NKind.cells_get _ i (by rw [List.length_set]; exact hits) 0 (by decide), List.getElem_set_self]; rfl)
      rw [Nat.add_zero] at x0 z0
      go_upto_region 5 with fail
      refine wp_shade (fun W => TW W g (ts.set i (⟨⟨((c : Nat) : Int), parent, name, dir, schema, quota, len, pieces, writer⟩, loc, cap⟩ : NR)) lo hi ∧ Turned w W lo hi) ⟨by
        have q := HT.out.1.cell' i (by rw [List.length_set]; exact hits) (⟨⟨id, parent, name, dir, schema, quota, len, pieces, writer⟩, loc, cap⟩ : NR) (List.getElem_set_self _) 0 (by decide) (⟨⟨((c : Nat) : Int), parent, name, dir, schema, quota, len, pieces, writer⟩, loc, cap⟩ : NR) (.int .i64 (c : Int)) rfl (fun q hq hne => match q, hq, hne with | 0, _, h => absurd rfl h | 1, _, _ => rfl | 2, _, _ => rfl | 3, _, _ => rfl | 4, _, _ => rfl | 5, _, _ => rfl | 6, _, _ => rfl | 7, _, _ => rfl | 8, _, _ => rfl | x + 9, h, _ => absurd h (by omega)) rfl rfl
        rw [List.set_set] at q
        exact q, HT.out.2.trans (Turned.of_grown (gb_set' _ _ _ _) hglo hghi)⟩ ?_
      clear HT x0 z0
      rintro Wid ⟨ht, htu⟩
      have HT := Shut.mk (And.intro ht htu)
      clear ht htu
      obtain ⟨x1, z1⟩ := HT.out.1.out.2 (i * 9 + 1) _ (by rw [NKind.cells_get _ i (by rw [List.length_set]; exact hits) 1 (by decide), List.getElem_set_self]; rfl)
      go_upto_region 7 with fail
      refine wp_shade (fun W => TW W g (ts.set i (⟨⟨((c : Nat) : Int), ((c1 : Nat) : Int), name, dir, schema, quota, len, pieces, writer⟩, loc, cap⟩ : NR)) lo hi ∧ Turned w W lo hi) ⟨by
        have q := HT.out.1.cell' i (by rw [List.length_set]; exact hits) (⟨⟨((c : Nat) : Int), parent, name, dir, schema, quota, len, pieces, writer⟩, loc, cap⟩ : NR) (List.getElem_set_self _) 1 (by decide) (⟨⟨((c : Nat) : Int), ((c1 : Nat) : Int), name, dir, schema, quota, len, pieces, writer⟩, loc, cap⟩ : NR) (.int .i64 (c1 : Int)) rfl (fun q hq hne => match q, hq, hne with | 0, _, _ => rfl | 1, _, h => absurd rfl h | 2, _, _ => rfl | 3, _, _ => rfl | 4, _, _ => rfl | 5, _, _ => rfl | 6, _, _ => rfl | 7, _, _ => rfl | 8, _, _ => rfl | x + 9, h, _ => absurd h (by omega)) rfl rfl
        rw [List.set_set] at q
        exact q, HT.out.2.trans (Turned.of_grown (gb_set' _ _ _ _) hglo hghi)⟩ ?_
      clear HT x1 z1
      rintro Wparent ⟨ht, htu⟩
      have HT := Shut.mk (And.intro ht htu)
      clear ht htu
      go_wp2_with fail
      refine (HMT.out _).mono ?_
      rintro e wn ⟨rfl, hbn⟩
      replace HT := Shut.mk (show TW wn g (ts.set i (⟨⟨((c : Nat) : Int), ((c1 : Nat) : Int), name, dir, schema, quota, len, pieces, writer⟩, loc, cap⟩ : NR)) lo hi ∧ Turned w wn lo hi from ⟨HT.out.1.below hbn, HT.out.2.trans (Turned.of_below hbn lo hi)⟩)
      clear hbn
      obtain ⟨x2, z2⟩ := HT.out.1.out.2 (i * 9 + 2) _ (by rw [NKind.cells_get _ i (by rw [List.length_set]; exact hits) 2 (by decide), List.getElem_set_self]; rfl)
      go_upto_region 9 with fail
      refine wp_shade (fun W => TW W g (ts.set i (⟨⟨((c : Nat) : Int), ((c1 : Nat) : Int), T2, dir, schema, quota, len, pieces, writer⟩, loc, cap⟩ : NR)) lo hi ∧ Turned w W lo hi) ⟨by
        have q := HT.out.1.cell' i (by rw [List.length_set]; exact hits) (⟨⟨((c : Nat) : Int), ((c1 : Nat) : Int), name, dir, schema, quota, len, pieces, writer⟩, loc, cap⟩ : NR) (List.getElem_set_self _) 2 (by decide) (⟨⟨((c : Nat) : Int), ((c1 : Nat) : Int), T2, dir, schema, quota, len, pieces, writer⟩, loc, cap⟩ : NR) (.string T2) rfl (fun q hq hne => match q, hq, hne with | 0, _, _ => rfl | 1, _, _ => rfl | 2, _, h => absurd rfl h | 3, _, _ => rfl | 4, _, _ => rfl | 5, _, _ => rfl | 6, _, _ => rfl | 7, _, _ => rfl | 8, _, _ => rfl | x + 9, h, _ => absurd h (by omega)) rfl rfl
        rw [List.set_set] at q
        exact q, HT.out.2.trans (Turned.of_grown (gb_set' _ _ _ _) hglo hghi)⟩ ?_
      clear HT x2 z2
      rintro Wname ⟨ht, htu⟩
      have HT := Shut.mk (And.intro ht htu)
      clear ht htu
      obtain ⟨x3, z3⟩ := HT.out.1.out.2 (i * 9 + 3) _ (by rw [NKind.cells_get _ i (by rw [List.length_set]; exact hits) 3 (by decide), List.getElem_set_self]; rfl)
      go_upto_region 11 with fail
      refine wp_shade (fun W => TW W g (ts.set i (⟨⟨((c : Nat) : Int), ((c1 : Nat) : Int), T2, D3, schema, quota, len, pieces, writer⟩, loc, cap⟩ : NR)) lo hi ∧ Turned w W lo hi) ⟨by
        have q := HT.out.1.cell' i (by rw [List.length_set]; exact hits) (⟨⟨((c : Nat) : Int), ((c1 : Nat) : Int), T2, dir, schema, quota, len, pieces, writer⟩, loc, cap⟩ : NR) (List.getElem_set_self _) 3 (by decide) (⟨⟨((c : Nat) : Int), ((c1 : Nat) : Int), T2, D3, schema, quota, len, pieces, writer⟩, loc, cap⟩ : NR) (.bool D3) rfl (fun q hq hne => match q, hq, hne with | 0, _, _ => rfl | 1, _, _ => rfl | 2, _, _ => rfl | 3, _, h => absurd rfl h | 4, _, _ => rfl | 5, _, _ => rfl | 6, _, _ => rfl | 7, _, _ => rfl | 8, _, _ => rfl | x + 9, h, _ => absurd h (by omega)) rfl rfl
        rw [List.set_set] at q
        exact q, HT.out.2.trans (Turned.of_grown (gb_set' _ _ _ _) hglo hghi)⟩ ?_
      clear HT x3 z3
      rintro Wdir ⟨ht, htu⟩
      have HT := Shut.mk (And.intro ht htu)
      clear ht htu
      obtain ⟨x4, z4⟩ := HT.out.1.out.2 (i * 9 + 4) _ (by rw [NKind.cells_get _ i (by rw [List.length_set]; exact hits) 4 (by decide), List.getElem_set_self]; rfl)
      go_upto_region 13 with fail
      refine wp_shade (fun W => TW W g (ts.set i (⟨⟨((c : Nat) : Int), ((c1 : Nat) : Int), T2, D3, ((c4 : Nat) : Int), quota, len, pieces, writer⟩, loc, cap⟩ : NR)) lo hi ∧ Turned w W lo hi) ⟨by
        have q := HT.out.1.cell' i (by rw [List.length_set]; exact hits) (⟨⟨((c : Nat) : Int), ((c1 : Nat) : Int), T2, D3, schema, quota, len, pieces, writer⟩, loc, cap⟩ : NR) (List.getElem_set_self _) 4 (by decide) (⟨⟨((c : Nat) : Int), ((c1 : Nat) : Int), T2, D3, ((c4 : Nat) : Int), quota, len, pieces, writer⟩, loc, cap⟩ : NR) (.int .i64 (c4 : Int)) rfl (fun q hq hne => match q, hq, hne with | 0, _, _ => rfl | 1, _, _ => rfl | 2, _, _ => rfl | 3, _, _ => rfl | 4, _, h => absurd rfl h | 5, _, _ => rfl | 6, _, _ => rfl | 7, _, _ => rfl | 8, _, _ => rfl | x + 9, h, _ => absurd h (by omega)) rfl rfl
        rw [List.set_set] at q
        exact q, HT.out.2.trans (Turned.of_grown (gb_set' _ _ _ _) hglo hghi)⟩ ?_
      clear HT x4 z4
      rintro Wschema ⟨ht, htu⟩
      have HT := Shut.mk (And.intro ht htu)
      clear ht htu
      obtain ⟨x5, z5⟩ := HT.out.1.out.2 (i * 9 + 5) _ (by rw [NKind.cells_get _ i (by rw [List.length_set]; exact hits) 5 (by decide), List.getElem_set_self]; rfl)
      go_upto_region 15 with fail
      refine wp_shade (fun W => TW W g (ts.set i (⟨⟨((c : Nat) : Int), ((c1 : Nat) : Int), T2, D3, ((c4 : Nat) : Int), ((c5 : Nat) : Int), len, pieces, writer⟩, loc, cap⟩ : NR)) lo hi ∧ Turned w W lo hi) ⟨by
        have q := HT.out.1.cell' i (by rw [List.length_set]; exact hits) (⟨⟨((c : Nat) : Int), ((c1 : Nat) : Int), T2, D3, ((c4 : Nat) : Int), quota, len, pieces, writer⟩, loc, cap⟩ : NR) (List.getElem_set_self _) 5 (by decide) (⟨⟨((c : Nat) : Int), ((c1 : Nat) : Int), T2, D3, ((c4 : Nat) : Int), ((c5 : Nat) : Int), len, pieces, writer⟩, loc, cap⟩ : NR) (.int .i64 (c5 : Int)) rfl (fun q hq hne => match q, hq, hne with | 0, _, _ => rfl | 1, _, _ => rfl | 2, _, _ => rfl | 3, _, _ => rfl | 4, _, _ => rfl | 5, _, h => absurd rfl h | 6, _, _ => rfl | 7, _, _ => rfl | 8, _, _ => rfl | x + 9, h, _ => absurd h (by omega)) rfl rfl
        rw [List.set_set] at q
        exact q, HT.out.2.trans (Turned.of_grown (gb_set' _ _ _ _) hglo hghi)⟩ ?_
      clear HT x5 z5
      rintro Wquota ⟨ht, htu⟩
      have HT := Shut.mk (And.intro ht htu)
      clear ht htu
      obtain ⟨x6, z6⟩ := HT.out.1.out.2 (i * 9 + 6) _ (by rw [NKind.cells_get _ i (by rw [List.length_set]; exact hits) 6 (by decide), List.getElem_set_self]; rfl)
      go_upto_region 17 with fail
      refine wp_shade (fun W => TW W g (ts.set i (⟨⟨((c : Nat) : Int), ((c1 : Nat) : Int), T2, D3, ((c4 : Nat) : Int), ((c5 : Nat) : Int), ((c6 : Nat) : Int), pieces, writer⟩, loc, cap⟩ : NR)) lo hi ∧ Turned w W lo hi) ⟨by
        have q := HT.out.1.cell' i (by rw [List.length_set]; exact hits) (⟨⟨((c : Nat) : Int), ((c1 : Nat) : Int), T2, D3, ((c4 : Nat) : Int), ((c5 : Nat) : Int), len, pieces, writer⟩, loc, cap⟩ : NR) (List.getElem_set_self _) 6 (by decide) (⟨⟨((c : Nat) : Int), ((c1 : Nat) : Int), T2, D3, ((c4 : Nat) : Int), ((c5 : Nat) : Int), ((c6 : Nat) : Int), pieces, writer⟩, loc, cap⟩ : NR) (.int .i64 (c6 : Int)) rfl (fun q hq hne => match q, hq, hne with | 0, _, _ => rfl | 1, _, _ => rfl | 2, _, _ => rfl | 3, _, _ => rfl | 4, _, _ => rfl | 5, _, _ => rfl | 6, _, h => absurd rfl h | 7, _, _ => rfl | 8, _, _ => rfl | x + 9, h, _ => absurd h (by omega)) rfl rfl
        rw [List.set_set] at q
        exact q, HT.out.2.trans (Turned.of_grown (gb_set' _ _ _ _) hglo hghi)⟩ ?_
      clear HT x6 z6
      rintro Wlen ⟨ht, htu⟩
      have HT := Shut.mk (And.intro ht htu)
      clear ht htu
      have hrow := HT.out.1.rows (⟨⟨((c : Nat) : Int), ((c1 : Nat) : Int), T2, D3, ((c4 : Nat) : Int), ((c5 : Nat) : Int), ((c6 : Nat) : Int), pieces, writer⟩, loc, cap⟩ : NR) (List.mem_iff_getElem.2 ⟨i, by rw [List.length_set]; exact hits, List.getElem_set_self _⟩)
      obtain ⟨x7, z7⟩ := HT.out.1.out.2 (i * 9 + 7) _ (by rw [NKind.cells_get _ i (by rw [List.length_set]; exact hits) 7 (by decide), List.getElem_set_self]; rfl)
      have hcall : ∃ W8, True := ⟨w, trivial⟩
      clear hcall
      dsimp only at x7
      rw [← HNP.out] at x7
      have HCALL : Shut (Calls Try.prog 55 #[.slice loc np cap, .int .i64 c7] Wlen fun e w' => e = .returned (.int .i64 e7) ∧ TW w' g (ts.set i (⟨⟨((c : Nat) : Int), ((c1 : Nat) : Int), T2, D3, ((c4 : Nat) : Int), ((c5 : Nat) : Int), ((c6 : Nat) : Int), (markPs c7 np), writer⟩, loc, cap⟩ : NR)) lo hi ∧ Turned w w' lo hi) := by
        rcases hrow with hemp | ⟨b, hb, hb1, hb2, hb3, hb4⟩
        · have hp0 : pieces = [] := pcs_nil.1 hemp
          have hn0 : np = 0 := by rw [HNP.out, hp0]; rfl
          subst hn0
          refine ⟨(markPieceS_none loc c7 cap Wlen).mono ?_⟩
          rintro e w' ⟨rfl, rfl⟩
          refine ⟨by rw [HE7.out]; rfl, ?_, HT.out.2⟩
          have : markPs c7 0 = pieces := by rw [hp0]; rfl
          rw [this]
          exact HT.out.1
        · by_cases hp0 : pieces = []
          · have hn0 : np = 0 := by rw [HNP.out, hp0]; rfl
            subst hn0
            refine ⟨(markPieceS_none loc c7 cap Wlen).mono ?_⟩
            rintro e w' ⟨rfl, rfl⟩
            refine ⟨by rw [HE7.out]; rfl, ?_, HT.out.2⟩
            have : markPs c7 0 = pieces := by rw [hp0]; rfl
            rw [this]
            exact HT.out.1
          · have hlb : loc = some ⟨b, 0, none⟩ := hb
            have hcl := markPieceS_any b pieces c7 cap Wlen hb4 (by have := HNP.out; have := HE7.out; omega)
            rw [← HNP.out] at hcl
            rw [hlb]
            refine ⟨hcl.mono ?_⟩
            rintro e w' ⟨rfl, hw', hg'⟩
            refine ⟨by rw [← HE7.out], ?_, HT.out.2.trans (Turned.of_grown hg' hb1 hb2)⟩
            have q := HT.out.1.pieces i (by rw [List.length_set]; exact hits) b (by rw [List.getElem_set_self]; exact hlb) (by rw [List.getElem_set_self]; exact hp0) (⟨⟨((c : Nat) : Int), ((c1 : Nat) : Int), T2, D3, ((c4 : Nat) : Int), ((c5 : Nat) : Int), ((c6 : Nat) : Int), (markPs c7 np), writer⟩, loc, cap⟩ : NR) (by rw [List.getElem_set_self]; unfold ncells; dsimp only; rw [markPs_len, HNP.out]) (by rw [List.getElem_set_self]) hw' hg'
            rw [List.set_set, hlb] at q
            exact q
      clear hrow HT
      go_wp2_with fail
      refine HCALL.out.mono ?_
      rintro e Wp ⟨rfl, ht, htu⟩
      have HT := Shut.mk (And.intro ht htu)
      clear ht htu HCALL
      obtain ⟨x8, z8⟩ := HT.out.1.out.2 (i * 9 + 8) _ (by rw [NKind.cells_get _ i (by rw [List.length_set]; exact hits) 8 (by decide), List.getElem_set_self]; rfl)
      go_upto_region 20 with fail
      refine wp_shade (fun W => TW W g (ts.set i (⟨⟨((c : Nat) : Int), ((c1 : Nat) : Int), T2, D3, ((c4 : Nat) : Int), ((c5 : Nat) : Int), ((c6 : Nat) : Int), (markPs c7 np), ((e7 : Nat) : Int)⟩, loc, cap⟩ : NR)) lo hi ∧ Turned w W lo hi) ⟨by
        have q := HT.out.1.cell' i (by rw [List.length_set]; exact hits) (⟨⟨((c : Nat) : Int), ((c1 : Nat) : Int), T2, D3, ((c4 : Nat) : Int), ((c5 : Nat) : Int), ((c6 : Nat) : Int), (markPs c7 np), writer⟩, loc, cap⟩ : NR) (List.getElem_set_self _) 8 (by decide) (⟨⟨((c : Nat) : Int), ((c1 : Nat) : Int), T2, D3, ((c4 : Nat) : Int), ((c5 : Nat) : Int), ((c6 : Nat) : Int), (markPs c7 np), ((e7 : Nat) : Int)⟩, loc, cap⟩ : NR) (.int .i64 (e7 : Int)) rfl (fun q hq hne => match q, hq, hne with | 0, _, _ => rfl | 1, _, _ => rfl | 2, _, _ => rfl | 3, _, _ => rfl | 4, _, _ => rfl | 5, _, _ => rfl | 6, _, _ => rfl | 7, _, _ => rfl | 8, _, h => absurd rfl h | x + 9, h, _ => absurd h (by omega)) rfl rfl
        rw [List.set_set] at q
        exact q, HT.out.2.trans (Turned.of_grown (gb_set' _ _ _ _) hglo hghi)⟩ ?_
      clear HT x8 z8
      rintro Wwriter ⟨ht, htu⟩
      have HT := Shut.mk (And.intro ht htu)
      clear ht htu
      go_wp2_with fail
      go_roundw
      case rel => exact ⟨i + 1, e8, ts.set i (⟨⟨((c : Nat) : Int), ((c1 : Nat) : Int), T2, D3, ((c4 : Nat) : Int), ((c5 : Nat) : Int), ((c6 : Nat) : Int), (markPs c7 np), ((e7 : Nat) : Int)⟩, loc, cap⟩ : NR), by go_num, rfl, q9, by omega, by omega, ⟨HNX.out.1, HNX.out.2⟩, HT⟩
      case measure => simp [intOf]; omega
    · have e : i = n := by omega
      have hall : rs.take i = rs := List.take_of_length_le (by have := HN.out; omega)
      have hnil : rs.drop i = [] := List.drop_eq_nil_of_le (by have := HN.out; omega)
      have hlt' : ¬ (i : Int) < (n : Int) := by omega
      have HF : Shut (c = markK k (nds rs) ∧ ts = markRs k rs) := ⟨by have := HG.out.1; rwa [hall] at this, by have := HG.out.2; rwa [hall, hnil, List.append_nil] at this⟩
      clear hall hnil HG e
      go_wp2_with fail
      go_ret
      exact ⟨by rw [← HF.out.1]; rfl, by rw [← HF.out.2]; exact HT.out.1, HT.out.2⟩
end Go.Proofs.Ythfmjjaollekiaa
/- TreI: Marks that are found again in trees; marks over trees as values. -/
namespace Go.Proofs.Ythfmjjaollekiaa
set_option maxRecDepth 100000
open Go.RowKit
attribute [local go_sem ↓] Go.wp_at_zero Go.wp_at_succ

theorem markRs_at (k : Nat) (rs : List NR) (i : Nat) (h : i < rs.length) : (markRs k rs)[i]'(by rw [markRs_len]; exact h) = ⟨markN (markK k (nds (rs.take i))) rs[i].nd.pieces.length, rs[i].loc, rs[i].cap⟩ := by
  induction rs generalizing k i with
  | nil => simp at h
  | cons r rs ih =>
    cases i with
    | zero => rfl
    | succ i =>
      simp only [markRs, List.getElem_cons_succ, List.take_succ_cons, nds, List.map_cons, markK]
      exact ih _ i (by simpa using h)
/-- A value that was marked from k on, where it was this tree. -/
def THeld (w : World) (v : Value) (k : Nat) (T : TM) (lo hi : Nat) : Prop := ∃ (a : Option Addr) (cap : Nat) (rs : List NR), v = .agg #[.slice a rs.length cap, .int .i64 T.next] ∧ nds rs = T.nodes ∧ TR w a (markRs k rs) lo hi
theorem THeld.turned {w w' : World} {v : Value} {k : Nat} {T : TM} {lo hi lo' hi' : Nat} (h : THeld w v k T lo hi) (t : Turned w w' lo' hi') (hd : hi ≤ lo' ∨ hi' ≤ lo) : THeld w' v k T lo hi := by
  obtain ⟨a, cap, rs, e, hr, h1⟩ := h
  exact ⟨a, cap, rs, e, hr, h1.turned t hd⟩
theorem THeld.below {w w' : World} {v : Value} {k : Nat} {T : TM} {lo hi : Nat} (h : THeld w v k T lo hi) (hb : Below w.heap.size w w') : THeld w' v k T lo hi := by
  obtain ⟨a, cap, rs, e, hr, h1⟩ := h
  exact ⟨a, cap, rs, e, hr, h1.below hb⟩
theorem markInodeS_nil (a : Option Addr) (k ca : Nat) (w : World) : Calls Try.prog 38 #[.slice a 0 ca, .int .i64 k] w fun e w' => e = .returned (.int .i64 k) ∧ w' = w := by
  go_enter Try.func38, Try.ntmps38
  go_wp2_with fail
  go_rounds 1
  go_ret
  exact ⟨rfl, rfl⟩
theorem mark_fit {T : TM} (hf : NFit T) (k : Nat) (hk : k ≤ 1000) : markK k T.nodes ≤ 50000000 := by
  have := (markK_le k T.nodes).2
  unfold NFit at hf
  omega
set_option maxHeartbeats 1000000 in
theorem markTree_val {w : World} {v : Value} {T : TM} {lo hi : Nat} (k : Nat) (h : TAns w v T lo hi) (hf : NFit T) (h1 : 1 ≤ k) (hk : k ≤ 1000) :
    Calls Try.prog 18 #[v, .int .i64 k] w fun e w' => e = .returned (.int .i64 (markK k T.nodes : Nat)) ∧ THeld w' v k T lo hi ∧ Turned w w' lo hi := by
  obtain ⟨a, cap, rs, rfl, hr, hc, h2⟩ := h
  have hmf := mark_fit hf k hk
  rw [← hr] at hmf
  have hsz : ∀ W, W = w.alloc (.cells #[.slice a rs.length cap, .int .i64 T.next] 26) → Below w.heap.size w W := fun W e => by rw [e]; exact (Below.refl _ _).alloc (Nat.le_refl _) _
  have HB := Shut.mk (hsz _ rfl)
  have HC : Shut (Calls Try.prog 38 #[.slice a rs.length cap, .int .i64 k] (w.alloc (.cells #[.slice a rs.length cap, .int .i64 T.next] 26)) fun e w' => e = .returned (.int .i64 (markK k T.nodes : Nat)) ∧ TR w' a (markRs k rs) lo hi ∧ Turned w w' lo hi) := by
    rcases h2 with rfl | ⟨g, rfl, hm⟩
    · refine ⟨(markInodeS_nil a k cap _).mono ?_⟩
      rintro e w' ⟨rfl, rfl⟩
      have hx : T.nodes = [] := by rw [← hr]; rfl
      exact ⟨by rw [hx]; rfl, GR.nil _ _ _ _ _, Turned.of_below HB.out lo hi⟩
    · refine ⟨(markInodeS_any g rs k cap _ lo hi (hm.below HB.out) h1 hmf).mono ?_⟩
      rintro e w' ⟨rfl, hw', ht⟩
      exact ⟨by rw [hr], hw'.gr, (Turned.of_below HB.out lo hi).trans ht⟩
  have HR := Shut.mk hr
  obtain ⟨m, hme⟩ : ∃ m, m = markK k T.nodes := ⟨_, rfl⟩
  have HME : m ≤ 50000000 := by rw [hme, ← hr]; exact hmf
  rw [← hme] at HC ⊢
  obtain ⟨nx, hnx⟩ : ∃ nx, nx = T.next := ⟨_, rfl⟩
  have HNX := Shut.mk hnx
  rw [← hnx] at HC HB ⊢
  obtain ⟨n, hnl⟩ : ∃ n, n = rs.length := ⟨_, rfl⟩
  have HNL := Shut.mk hnl
  rw [← hnl] at HC HB ⊢
  clear hmf hsz h2 hr hc hf hme hnx hnl
  go_enter Try.func18, Try.ntmps18
  go_wp2_with fail
  refine HC.out.mono ?_
  rintro e w2 ⟨rfl, ht, htu⟩
  have HT := Shut.mk (And.intro ht htu)
  clear ht htu HC
  go_wp2_with fail
  go_ret
  exact ⟨rfl, ⟨a, cap, rs, by rw [HNX.out, HNL.out], HR.out, HT.out.1⟩, HT.out.2⟩
end Go.Proofs.Ythfmjjaollekiaa
/- SchZ: The schemas, plain, and the walk of the model's SchemaOf. -/
namespace Go.Proofs.Ythfmjjaollekiaa
set_option maxRecDepth 100000
open Go.RowKit
attribute [local go_sem ↓] Go.wp_at_zero Go.wp_at_succ

def schK (s : Int) : Nat := if s = 1 then 2 else if s = 2 then 3 else if s = 3 then 4 else 0
def schM (s : Int) : Nat := if s = 1 then 1 else if s = 2 then 2 else if s = 3 then 2 else 0
def schOk (s : Int) : Bool := decide (s = 1) || decide (s = 2) || decide (s = 3)
theorem sch_cases {s : Int} (h : schOk s = true) : s = 1 ∨ s = 2 ∨ s = 3 := by
  unfold schOk at h
  simp only [Bool.or_eq_true, decide_eq_true_eq] at h
  omega
theorem sch_no {s : Int} (h : schOk s = false) : s ≠ 1 ∧ s ≠ 2 ∧ s ≠ 3 := by
  unfold schOk at h
  simp only [Bool.or_eq_false_iff, decide_eq_false_iff_not] at h
  omega
theorem sch_bounds {s : Int} (h : schOk s = true) : 2 ≤ schK s ∧ schK s ≤ 4 ∧ 1 ≤ schM s ∧ schM s ≤ 2 := by
  rcases sch_cases h with rfl | rfl | rfl <;> decide
theorem sch_zero {s : Int} (h : schOk s = false) : schK s = 0 ∧ schM s = 0 := by
  obtain ⟨h1, h2, h3⟩ := sch_no h
  unfold schK schM
  rw [if_neg h1, if_neg h2, if_neg h3, if_neg h1, if_neg h2, if_neg h3]
  exact ⟨rfl, rfl⟩
def SchPost (s : Int) (w : World) (e : Ending) (w' : World) : Prop := e = .returned (.tuple #[.int .i64 (schK s : Nat), .int .i64 (schM s : Nat), .bool (schOk s)]) ∧ w' = w
theorem specSchema (s : Int) (w : World) : Calls Try.prog 114 #[.int .i64 s] w fun e w' => SchPost s w e w' := by
  cases h : schOk s with
  | true =>
    obtain rfl | rfl | rfl := sch_cases h
    all_goals
      clear h
      go_enter Try.func114, Try.ntmps114
      go_wp2_with fail
      go_ret3
      exact ⟨rfl, rfl⟩
  | false =>
    obtain ⟨h1, h2, h3⟩ := sch_no h
    obtain ⟨e1, e2⟩ := sch_zero h
    unfold SchPost
    rw [e1, e2, h]
    clear h e1 e2
    go_enter Try.func114, Try.ntmps114
    go_wp2_with fail
    go_ret3
    exact ⟨rfl, rfl⟩
/-- The same, of the program's own. -/
def SchB (s : Int) (w : World) (e : Ending) (w' : World) : Prop := e = .returned (.tuple #[.int .i64 (schK s : Nat), .int .i64 (schM s : Nat), .bool (schOk s)]) ∧ Below w.heap.size w w'
end Go.Proofs.Ythfmjjaollekiaa
/- Words: Plain facts on the bytes of numbers: the bytes of a number by sevens of bits are told by 'vt', the number that bytes begin by 'rv'; nothing of the program is read here. -/
namespace Go.Proofs.Ythfmjjaollekiaa.W
/-- The bytes of a number, by sevens of bits, with fuel. -/
def vtF : Nat → Nat → List UInt8
  | 0, n => [UInt8.ofNat n]
  | f + 1, n => if 127 < n then UInt8.ofNat (n % 128 + 128) :: vtF f (n / 128) else [UInt8.ofNat n]
def vt (n : Nat) : List UInt8 := vtF n n
theorem vtF_enough : ∀ (f g n : Nat), n ≤ f → n ≤ g → vtF f n = vtF g n
  | 0, 0, n, _, _ => rfl
  | 0, g + 1, n, h, _ => by have : n = 0 := by omega
                            subst this; simp [vtF]
  | f + 1, 0, n, _, h => by have : n = 0 := by omega
                            subst this; simp [vtF]
  | f + 1, g + 1, n, h1, h2 => by
    unfold vtF
    by_cases h : 127 < n
    · rw [if_pos h, if_pos h, vtF_enough f g (n / 128) (by omega) (by omega)]
    · rw [if_neg h, if_neg h]
theorem vt_big (n : Nat) (h : 127 < n) : vt n = UInt8.ofNat (n % 128 + 128) :: vt (n / 128) := by
  unfold vt
  match n, h with
  | k + 1, h =>
    rw [vtF, if_pos h, vtF_enough k ((k + 1) / 128) ((k + 1) / 128) (by omega) (by omega)]
theorem vt_small (n : Nat) (h : n ≤ 127) : vt n = [UInt8.ofNat n] := by
  unfold vt
  match n with
  | 0 => rfl
  | k + 1 => rw [vtF, if_neg (by omega)]
theorem vt_len (n : Nat) : (vt n).length ≤ n + 1 := by
  suffices h : ∀ f m, (vtF f m).length ≤ f + 1 from h n n
  intro f
  induction f with
  | zero => intro m; simp [vtF]
  | succ f ih => intro m; unfold vtF; split
                 · have := ih (m / 128); simp; omega
                 · simp

/-- The number of bytes by sevens: each with its high bit left off. -/
def val : List UInt8 → Nat
  | [] => 0
  | b :: l => b.toNat % 128 + 128 * val l

/-- All but the last are 128 or more. -/
def heads (l : List UInt8) : Prop := ∀ b ∈ l, 128 ≤ b.toNat

theorem ofNat_self (b : UInt8) : UInt8.ofNat b.toNat = b := by simp

theorem vt_one (b : UInt8) (h : b.toNat < 128) : vt b.toNat = [b] := by
  rw [vt_small _ (by omega)]; simp

theorem val_pos : ∀ (l : List UInt8) (b : UInt8), b.toNat < 128 → b ≠ 0 → 0 < val (l ++ [b])
  | [], b, h, h0 => by
    have : b.toNat ≠ 0 := fun e => h0 (by have := UInt8.toNat_inj (a := b) (b := 0); simp at this; exact this.1 e)
    simp [val]; omega
  | c :: l, b, h, h0 => by
    have := val_pos l b h h0
    simp [val]; omega

/-- The bytes of the number of some bytes are those bytes, where they have no needless nought at the end. -/
theorem vt_val : ∀ (l : List UInt8) (b : UInt8), heads l → b.toNat < 128 → (l = [] ∨ b ≠ 0) → vt (val (l ++ [b])) = l ++ [b]
  | [], b, _, hb, _ => by
    have : val ([] ++ [b]) = b.toNat := by simp [val]; omega
    rw [this]; exact vt_one b hb
  | c :: l, b, hl, hb, h0 => by
    have h0 : b ≠ 0 := by rcases h0 with h | h; cases h; exact h
    have hc : 128 ≤ c.toNat := hl c (by simp)
    have ih := vt_val l b (fun x hx => hl x (by simp [hx])) hb (.inr h0)
    have hp := val_pos l b hb h0
    have hlt := c.toNat_lt
    have e : val (c :: l ++ [b]) = c.toNat % 128 + 128 * val (l ++ [b]) := rfl
    rw [e, vt_big _ (by omega)]
    have e1 : (c.toNat % 128 + 128 * val (l ++ [b])) % 128 + 128 = c.toNat := by omega
    have e2 : (c.toNat % 128 + 128 * val (l ++ [b])) / 128 = val (l ++ [b]) := by omega
    rw [e1, e2, ih]; simp

/-- With a needless nought at the end they are not. -/
theorem vt_last : ∀ (f n : Nat), n ≤ f → 0 < n → (vtF f n).getLast? ≠ some 0
  | 0, n, h, h' => by omega
  | f + 1, n, h, h' => by
    unfold vtF
    by_cases hb : 127 < n
    · rw [if_pos hb]
      have ih := vt_last f (n / 128) (by omega) (by omega)
      have hne : vtF f (n / 128) ≠ [] := by cases f <;> simp [vtF] <;> split <;> simp
      rw [List.getLast?_cons_of_ne_nil hne]
      exact ih
    · rw [if_neg hb]
      simp
      intro e
      have := congrArg UInt8.toNat e
      simp at this
      omega
theorem vt_not (l : List UInt8) (hl : l ≠ []) : vt (val (l ++ [0])) ≠ l ++ [0] := by
  intro e
  by_cases h : val (l ++ [0]) = 0
  · rw [h] at e
    have := congrArg List.length e
    simp [vt, vtF] at this
    exact hl this
  · have := vt_last _ _ (Nat.le_refl (val (l ++ [0]))) (by omega)
    unfold vt at e
    rw [e] at this
    simp at this

/-- What stands behind some bytes: the number that they begin, its weight, whether none has come yet, the bytes that are left, their place. -/
def rv : Nat → Nat → Bool → List UInt8 → Nat → Option (Nat × Nat)
  | _, _, _, [], _ => none
  | n, w, first, b :: l, p =>
    if 1000000000 < w then none
    else if 127 < b.toNat then rv (n + (b.toNat - 128) * w) (w * 128) false l (p + 1)
    else if b.toNat = 0 ∧ first = false then none
    else if 1000000000 < n + b.toNat * w then none
    else some (n + b.toNat * w, p + 1)

theorem val_snoc : ∀ (l : List UInt8) (b : UInt8), val (l ++ [b]) = val l + b.toNat % 128 * 128 ^ l.length
  | [], b => by simp [val]
  | c :: l, b => by
    have ih := val_snoc l b
    show c.toNat % 128 + 128 * val (l ++ [b]) = _
    rw [ih]
    simp only [val, List.length_cons, Nat.pow_succ, Nat.mul_add]
    rw [← Nat.mul_assoc (b.toNat % 128), Nat.mul_comm 128 (b.toNat % 128 * 128 ^ l.length)]
    omega
theorem val_lt : ∀ (l : List UInt8), val l < 128 ^ l.length
  | [] => by simp [val]
  | c :: l => by
    have := val_lt l
    simp only [val, List.length_cons, Nat.pow_succ]
    omega
theorem rv_nil (n w : Nat) (f : Bool) (p : Nat) : rv n w f [] p = none := rfl
theorem rv_great (n w : Nat) (f : Bool) (l : List UInt8) (p : Nat) (h : 1000000000 < w) : rv n w f l p = none := by
  cases l
  · rfl
  · rw [rv, if_pos h]
theorem rv_head (n w : Nat) (f : Bool) (b : UInt8) (l : List UInt8) (p : Nat) (h : w ≤ 1000000000) (hb : 127 < b.toNat) : rv n w f (b :: l) p = rv (n + (b.toNat - 128) * w) (w * 128) false l (p + 1) := by
  rw [rv, if_neg (by omega), if_pos hb]
theorem rv_nought (n w : Nat) (b : UInt8) (l : List UInt8) (p : Nat) (hb : b.toNat = 0) : rv n w false (b :: l) p = none := by
  rw [rv]; split
  · rfl
  · rw [if_neg (by omega), if_pos ⟨hb, rfl⟩]
theorem rv_far (n w : Nat) (f : Bool) (b : UInt8) (l : List UInt8) (p : Nat) (hb : b.toNat ≤ 127) (h : 1000000000 < n + b.toNat * w) : rv n w f (b :: l) p = none := by
  rw [rv]; split
  · rfl
  · rw [if_neg (by omega)]; split
    · rfl
    · rfl
theorem rv_done (n w : Nat) (f : Bool) (b : UInt8) (l : List UInt8) (p : Nat) (h : w ≤ 1000000000) (hb : b.toNat ≤ 127) (h0 : b.toNat ≠ 0 ∨ f = true) (hm : n + b.toNat * w ≤ 1000000000) :
    rv n w f (b :: l) p = some (n + b.toNat * w, p + 1) := by
  rw [rv, if_neg (by omega), if_neg (by omega), if_neg (by rcases h0 with h | h <;> simp [h]), if_neg (by omega)]

/-- As the bytes so far tell it. -/
def rvs (hd : List UInt8) (l : List UInt8) (p : Nat) : Option (Nat × Nat) := rv (val hd) (128 ^ hd.length) (decide (hd.length = 0)) l p
theorem rvs_step (hd : List UInt8) (b : UInt8) (l : List UInt8) (p : Nat) (hk : hd.length ≤ 4) (hb : 127 < b.toNat) : rvs hd (b :: l) p = rvs (hd ++ [b]) l (p + 1) := by
  have hw : 128 ^ hd.length ≤ 128 ^ 4 := Nat.pow_le_pow_right (by omega) hk
  have hlt := b.toNat_lt
  unfold rvs
  rw [rv_head _ _ _ _ _ _ (by omega) hb, val_snoc, List.length_append, List.length_singleton, Nat.pow_succ, decide_eq_false (p := hd.length + 1 = 0) (by omega)]
  have : b.toNat % 128 = b.toNat - 128 := by omega
  rw [this]
theorem rvs_five (hd : List UInt8) (l : List UInt8) (p : Nat) (hk : 5 ≤ hd.length) : rvs hd l p = none := by
  have hw : 128 ^ 5 ≤ 128 ^ hd.length := Nat.pow_le_pow_right (by omega) hk
  exact rv_great _ _ _ _ _ (by omega)
/-- The test by the bytes of the number says the same as the test for a needless nought. -/
theorem rvs_end (hd : List UInt8) (b : UInt8) (l : List UInt8) (p : Nat) (hk : hd.length ≤ 4) (hh : heads hd) (hb : b.toNat ≤ 127) :
    rvs hd (b :: l) p = if val (hd ++ [b]) ≤ 1000000000 ∧ vt (val (hd ++ [b])) = hd ++ [b] then some (val (hd ++ [b]), p + 1) else none := by
  have hw : 128 ^ hd.length ≤ 128 ^ 4 := Nat.pow_le_pow_right (by omega) hk
  have ev : val (hd ++ [b]) = val hd + b.toNat * 128 ^ hd.length := by rw [val_snoc]; congr 2; omega
  by_cases h0 : b.toNat = 0 ∧ hd ≠ []
  · have eb : b = 0 := by have := UInt8.toNat_inj (a := b) (b := 0); simp at this; exact this.1 h0.1
    rw [if_neg (by rw [eb]; exact fun h => vt_not hd h0.2 h.2)]
    unfold rvs
    rw [decide_eq_false (by simpa using h0.2), rv_nought _ _ _ _ _ h0.1]
  · have hv : vt (val (hd ++ [b])) = hd ++ [b] := vt_val hd b hh (by omega) (by
      by_cases e : hd = []
      · exact .inl e
      · right; intro eb; exact h0 ⟨by rw [eb]; rfl, e⟩)
    by_cases hm : val (hd ++ [b]) ≤ 1000000000
    · rw [if_pos ⟨hm, hv⟩]
      unfold rvs
      rw [rv_done _ _ _ _ _ _ (by omega) hb (by
        by_cases e : hd = []
        · right; simp [e]
        · left; exact fun eb => h0 ⟨eb, e⟩) (by omega), ev]
    · rw [if_neg (fun h => hm h.1)]
      exact rv_far _ _ _ _ _ _ hb (by omega)
end Go.Proofs.Ythfmjjaollekiaa.W
/- VarL: The walks of l01Var and l01In. -/
namespace Go.Proofs.Ythfmjjaollekiaa
set_option maxRecDepth 100000
open Go.RowKit

/-- What one round of the loop does to the row of bytes. -/
theorem step_byte {B n m : Nat} {l : List UInt8} {w wr w1 : World} {v v' : Value} {o : Obj} {x : Int} (hB : B ≤ wr.heap.size) (hx : x = (m % 128 + 128 : Nat))
    (hm : 127 < m) (hl : l.length + m ≤ n) (ht : l ++ W.vt m = W.vt n)
    (hown : wr.ownsRow B 5 1 v l.length (bv l)) (hb : Below B w wr)
    (hown' : w1.ownsRow B 5 1 v' (l.length + 1) (bv l ++ [.int .u8 x])) (hg : (wr.alloc o).grownBy w1 v.ownBlock) :
    ∃ l', l'.length + m / 128 ≤ n ∧ l' ++ W.vt (m / 128) = W.vt n ∧ w1.ownsRow B 5 1 v' l'.length (bv l') ∧ Below B w w1 := by
  refine ⟨l ++ [UInt8.ofNat (m % 128 + 128)], by simp; omega, by rw [← ht, W.vt_big m hm]; simp, ?_, ?_⟩
  · have e := byte_of x (by omega) (by omega)
    rw [e, bv_snoc] at hown'
    have : UInt8.ofNat x.toNat = UInt8.ofNat (m % 128 + 128) := by rw [hx]; rfl
    rw [this] at hown'
    simpa using hown'
  · exact (hb.alloc hB o).grown hg (by simp; omega) (fun j hj => by have := (hown.lt j hj).1; omega)
theorem last_byte {B n m : Nat} {l : List UInt8} {w wr w1 : World} {v v' : Value} {o : Obj} {x : Int} (hB : B ≤ wr.heap.size) (hx : x = m)
    (hm : m ≤ 127) (ht : l ++ W.vt m = W.vt n)
    (hown : wr.ownsRow B 5 1 v l.length (bv l)) (hb : Below B w wr)
    (hown' : w1.ownsRow B 5 1 v' (l.length + 1) (bv l ++ [.int .u8 x])) (hg : (wr.alloc o).grownBy w1 v.ownBlock) :
    (convert 22 9 v').run Try.prog w1 = .ok (.string ⟨(W.vt n).toArray⟩) w1 ∧ Below B w w1 := by
  refine ⟨?_, (hb.alloc hB o).grown hg (by simp; omega) (fun j hj => by have := (hown.lt j hj).1; omega)⟩
  have e := byte_of x (by omega) (by omega)
  rw [e, bv_snoc] at hown'
  have : UInt8.ofNat x.toNat = UInt8.ofNat m := by rw [hx]; rfl
  rw [this] at hown'
  have hn : W.vt n = l ++ [UInt8.ofNat m] := by rw [← ht, W.vt_small m hm]
  rw [hn]
  exact own_string (by simpa using hown')

theorem l01In_any (x a b : Int) (w : World) :
    Calls Try.prog 46 #[.int .i64 x, .int .i64 a, .int .i64 b] w fun e w' => e = .returned (.bool (decide (a ≤ x) && decide (x ≤ b))) ∧ w' = w := by
  by_cases h : a ≤ x
  · by_cases h' : x ≤ b
    · go_enter Try.func46, Try.ntmps46
      go_wp2
      go_ret
      exact ⟨by simp [h, h'], rfl⟩
    · go_enter Try.func46, Try.ntmps46
      go_wp2
      go_ret
      exact ⟨by simp [h'], rfl⟩
  · go_enter Try.func46, Try.ntmps46
    go_wp2
    go_ret
    exact ⟨by simp; omega, rfl⟩
end Go.Proofs.Ythfmjjaollekiaa
/- SpnA: Stripes: the walks of the models' GroupSize, PlaceOf, OffsetOf and Spans. -/
namespace Go.Proofs.Ythfmjjaollekiaa
set_option maxRecDepth 100000
open Go.RowKit
attribute [local go_sem ↓] Go.wp_at_zero Go.wp_at_succ

theorem isIn (x a b : Int) (w : World) (r : Bool) (h : (decide (a ≤ x) && decide (x ≤ b)) = r) : Calls Try.prog 46 #[.int .i64 x, .int .i64 a, .int .i64 b] w fun e w' => e = .returned (.bool r) ∧ w' = w := by
  rw [← h]; exact l01In_any x a b w
/-- How many bytes a group has. -/
def groupN (s : Int) : Nat := schK s * 8
theorem groupN_bounds (s : Int) : groupN s ≤ 32 := by
  unfold groupN
  cases h : schOk s with
  | true => have := (sch_bounds h).2.1; omega
  | false => rw [(sch_zero h).1]; omega
theorem specGroupSize (s : Int) (w : World) : Calls Try.prog 97 #[.int .i64 s] w fun e w' => e = .returned (.int .i64 (groupN s : Nat)) ∧ w' = w := by
  have HS := Shut.mk (fun W => specSchema s W)
  unfold SchPost at HS
  have hk : schK s ≤ 4 := by
    cases h : schOk s with
    | true => exact (sch_bounds h).2.1
    | false => rw [(sch_zero h).1]; omega
  have hg : ((groupN s : Nat) : Int) = (schK s : Int) * 4 * 2 := by unfold groupN; push_cast; omega
  generalize schOk s = ok at *
  generalize schM s = m at *
  generalize schK s = k at *
  have HG := Shut.mk hg
  clear hg
  go_enter Try.func97, Try.ntmps97
  go_wp2_with fail
  refine (HS.out _).mono ?_
  rintro e w1 ⟨rfl, rfl⟩
  go_wp2_with fail
  go_ret
  exact ⟨by rw [HG.out]; first | rfl | (simp; done) | (congr 2; omega), rfl⟩
/-- Where a byte is, plain: group, unit, place. -/
def unitAt (k o : Nat) : Nat := o % (k * 8) / 4 % k
def placeIn (k o : Nat) : Nat := o % (k * 8) / 4 / k * 4 + o % (k * 8) % 4
def placeX (s off : Int) : Nat × Nat × Nat := if schOk s = true ∧ 0 ≤ off ∧ off ≤ 100000 then (off.toNat / (schK s * 8), unitAt (schK s) off.toNat, placeIn (schK s) off.toNat) else (0, 0, 0)
def PlacePost (s off : Int) (w : World) (e : Ending) (w' : World) : Prop := e = .returned (.tuple #[.int .i64 ((placeX s off).1 : Nat), .int .i64 ((placeX s off).2.1 : Nat), .int .i64 ((placeX s off).2.2 : Nat)]) ∧ Below w.heap.size w w'
/-- The byte that has this place. -/
def offX (s g u a : Int) : Int := if schOk s = true ∧ (0 ≤ g ∧ g ≤ 100000) ∧ (0 ≤ u ∧ u ≤ (schK s : Int) - 1) ∧ (0 ≤ a ∧ a ≤ 7) then (if 100000 < g * (schK s * 8 : Nat) + (a / 4 * (schK s : Int) + u) * 4 + a % 4 then -1 else g * (schK s * 8 : Nat) + (a / 4 * (schK s : Int) + u) * 4 + a % 4) else -1
theorem offX_no {s g u a : Int} (h : ¬ (schOk s = true ∧ (0 ≤ g ∧ g ≤ 100000) ∧ (0 ≤ u ∧ u ≤ (schK s : Int) - 1) ∧ (0 ≤ a ∧ a ≤ 7))) : offX s g u a = -1 := if_neg h
theorem in_bool {a x b : Int} {r : Bool} (h : (decide (a ≤ x) && decide (x ≤ b)) = r) : r = true ↔ a ≤ x ∧ x ≤ b := by rw [← h]; simp
end Go.Proofs.Ythfmjjaollekiaa
/- PathM: Paths, plain: names, what lies between slashes, paths and their names. Nothing of the program is read here. -/
namespace Go.Proofs.Ythfmjjaollekiaa
set_option maxRecDepth 100000
open Go.PlainAid (bt)

def nameC (c : UInt8) : Bool := (decide (97 ≤ c.toNat) && decide (c.toNat ≤ 122)) || (decide (48 ≤ c.toNat) && decide (c.toNat ≤ 57))
def nameL (l : List UInt8) : Bool := l.all nameC && (decide (1 ≤ l.length) && decide (l.length ≤ 8))
theorem nameC_slash {c : UInt8} (h : nameC c = true) : c ≠ 47 := by
  intro e; subst e; exact absurd h (by decide)
theorem nameL_slash {l : List UInt8} (h : nameL l = true) : ∀ c ∈ l, c ≠ 47 := fun c hc => by
  unfold nameL at h
  rw [Bool.and_eq_true, List.all_eq_true] at h
  exact nameC_slash (h.1 c hc)
theorem nameL_pos {l : List UInt8} (h : nameL l = true) : 1 ≤ l.length ∧ l.length ≤ 8 := by
  unfold nameL at h
  simp only [Bool.and_eq_true, decide_eq_true_eq] at h
  exact h.2
/-- What lies between slashes. -/
def segs : List UInt8 → List (List UInt8)
  | [] => [[]]
  | c :: r => if c = 47 then [] :: segs r else match segs r with
    | [] => [[c]]
    | h :: t => (c :: h) :: t
theorem segs_ne : ∀ l, segs l ≠ []
  | [] => by simp [segs]
  | c :: r => by
    unfold segs
    split
    · simp
    · split <;> simp
theorem segs_none : ∀ (l : List UInt8), (∀ c ∈ l, c ≠ 47) → segs l = [l]
  | [], _ => rfl
  | c :: r, h => by
    unfold segs
    rw [if_neg (h c (by simp)), segs_none r (fun x hx => h x (by simp [hx]))]
theorem segs_cons {c : UInt8} {r x : List UInt8} {t : List (List UInt8)} (h : c ≠ 47) (e : segs r = x :: t) : segs (c :: r) = (c :: x) :: t := by
  unfold segs
  rw [if_neg h, e]
theorem segs_cut : ∀ (a r : List UInt8), (∀ c ∈ a, c ≠ 47) → segs (a ++ 47 :: r) = a :: segs r
  | [], r, _ => by simp [segs]
  | c :: a, r, h => by
    exact segs_cons (h c (by simp)) (segs_cut a r (fun x hx => h x (by simp [hx])))
theorem segs_back : ∀ (l : List UInt8), ((segs l).map (47 :: ·)).flatten = 47 :: l
  | [] => rfl
  | c :: r => by
    have ih := segs_back r
    unfold segs
    split
    · rename_i e; subst e
      simp only [List.map_cons, List.flatten_cons, ih]; rfl
    · cases h : segs r with
      | nil => exact absurd h (segs_ne r)
      | cons x t =>
        rw [h] at ih
        simp only [List.map_cons, List.flatten_cons, List.cons_append] at ih ⊢
        rw [List.cons.injEq] at ih
        rw [ih.2]
/-- A path's names. -/
def splitP : List UInt8 → List (List UInt8) × Bool
  | [] => ([], false)
  | c :: r => if c = 47 then (if r = [] then ([], true) else if (segs r).all nameL = true ∧ (segs r).length ≤ 4 then (segs r, true) else ([], false)) else ([], false)
def joinP (L : List (List UInt8)) : List UInt8 := if L = [] then [47] else (L.map (47 :: ·)).flatten
theorem join_split {p : List UInt8} (h : (splitP p).2 = true) : joinP (splitP p).1 = p := by
  unfold splitP at h ⊢
  cases p with
  | nil => cases h
  | cons c r =>
    simp only at h ⊢
    by_cases hc : c = 47
    · subst hc
      rw [if_pos rfl] at h ⊢
      by_cases hr : r = []
      · subst hr; rfl
      · rw [if_neg hr] at h ⊢
        by_cases hq : (segs r).all nameL = true ∧ (segs r).length ≤ 4
        · rw [if_pos hq]
          show joinP (segs r) = 47 :: r
          unfold joinP
          rw [if_neg (segs_ne r), segs_back]
        · rw [if_neg hq] at h; cases h
    · rw [if_neg hc] at h; cases h
theorem segs_join : ∀ (x : List UInt8) (L : List (List UInt8)), (∀ l ∈ x :: L, nameL l = true) → segs (x ++ (L.map (47 :: ·)).flatten) = x :: L
  | x, [], h => by
    rw [List.map_nil, List.flatten_nil, List.append_nil]
    exact segs_none x (nameL_slash (h x (by simp)))
  | x, y :: L, h => by
    rw [List.map_cons, List.flatten_cons, List.cons_append, segs_cut x _ (nameL_slash (h x (by simp))), segs_join y L (fun l hl => h l (by simp at hl ⊢; exact .inr hl))]
theorem split_join {L : List (List UInt8)} (h : ∀ l ∈ L, nameL l = true) (h4 : L.length ≤ 4) : splitP (joinP L) = (L, true) := by
  cases L with
  | nil => rfl
  | cons x L =>
    have e : joinP (x :: L) = 47 :: (x ++ (L.map (47 :: ·)).flatten) := by unfold joinP; rw [if_neg (by simp)]; rfl
    rw [e]
    unfold splitP
    have hx := (nameL_pos (h x (by simp))).1
    have hne : x ++ (L.map (47 :: ·)).flatten ≠ [] := fun e => by
      have := congrArg List.length e
      rw [List.length_append] at this
      simp at this
      rw [this.1] at hx
      simp at hx
    simp only
    rw [if_pos trivial, if_neg hne, segs_join x L h, if_pos ⟨by rw [List.all_eq_true]; exact h, h4⟩]
theorem split_names {p : List UInt8} : (∀ l ∈ (splitP p).1, nameL l = true) ∧ (splitP p).1.length ≤ 4 := by
  unfold splitP
  cases p with
  | nil => exact ⟨by simp, by simp⟩
  | cons c r =>
    simp only
    split
    · split
      · exact ⟨by simp, by simp⟩
      · split
        · rename_i q
          rw [List.all_eq_true] at q
          exact q
        · exact ⟨by simp, by simp⟩
    · exact ⟨by simp, by simp⟩
/-- The same of texts. -/
abbrev ba (l : List UInt8) : ByteArray := ⟨l.toArray⟩
abbrev lb (s : ByteArray) : List UInt8 := s.data.toList
theorem ba_lb (s : ByteArray) : ba (lb s) = s := rfl
theorem lb_ba (l : List UInt8) : lb (ba l) = l := by simp [lb]
def nameB (s : ByteArray) : Bool := nameL (lb s)
def splitB (p : ByteArray) : List ByteArray × Bool := ((splitP (lb p)).1.map ba, (splitP (lb p)).2)
def joinB (L : List ByteArray) : ByteArray := ba (joinP (L.map lb))
def parentB (p : ByteArray) : ByteArray × ByteArray × Bool := if (splitB p).2 = true ∧ (splitB p).1 ≠ [] then (joinB (splitB p).1.dropLast, (splitB p).1.getLastD ⟨#[]⟩, true) else (⟨#[]⟩, ⟨#[]⟩, false)
theorem map_lb_ba (L : List (List UInt8)) : (L.map ba).map lb = L := by
  rw [List.map_map]
  exact List.map_id'' (fun l => lb_ba l) L
theorem map_ba_lb (L : List ByteArray) : (L.map lb).map ba = L := by
  rw [List.map_map]
  exact List.map_id'' (fun s => ba_lb s) L
theorem joinB_split {p : ByteArray} (h : (splitB p).2 = true) : joinB (splitB p).1 = p := by
  unfold joinB splitB
  simp only
  rw [map_lb_ba, join_split h]
theorem splitB_join {L : List ByteArray} (h : ∀ s ∈ L, nameB s = true) (h4 : L.length ≤ 4) : splitB (joinB L) = (L, true) := by
  unfold splitB joinB
  rw [lb_ba, split_join (L := L.map lb) (fun l hl => by obtain ⟨s, hs, rfl⟩ := List.mem_map.1 hl; exact h s hs) (by rw [List.length_map]; exact h4)]
  simp only
  rw [map_ba_lb]
theorem splitB_names (p : ByteArray) : (∀ s ∈ (splitB p).1, nameB s = true) ∧ (splitB p).1.length ≤ 4 := by
  have h := split_names (p := lb p)
  refine ⟨fun s hs => ?_, ?_⟩
  · obtain ⟨l, hl, rfl⟩ := List.mem_map.1 hs
    unfold nameB
    rw [lb_ba]
    exact h.1 l hl
  · show ((splitP (lb p)).1.map ba).length ≤ 4
    rw [List.length_map]; exact h.2
/-- Where the way through a path stands. -/
structure PaRel (p : ByteArray) (i bg : Nat) (done : List ByteArray) : Prop where
  le : bg ≤ i
  pos : 1 ≤ bg
  clean : ∀ j, bg ≤ j → j < i → bt p j ≠ 47
  sofar : (segs ((lb p).drop 1)).map ba = done ++ (segs ((lb p).drop bg)).map ba
  names : ∀ s ∈ done, nameB s = true
theorem ext_list (s : ByteArray) (a b : Nat) : lb (s.extract a b) = ((lb s).drop a).take (b - a) := by simp [lb, ByteArray.data_extract]
theorem bt_at {s : ByteArray} {j : Nat} (h : j < s.size) : bt s j = ((lb s)[j]'h).toNat := by
  unfold bt; rw [dif_pos h]; rfl
theorem clean_list {p : ByteArray} {i bg : Nat} (hi : i ≤ p.size) (h : ∀ j, bg ≤ j → j < i → bt p j ≠ 47) : ∀ c ∈ ((lb p).drop bg).take (i - bg), c ≠ 47 := fun c hc e => by
  subst e
  obtain ⟨j, hj, e2⟩ := List.mem_iff_getElem.1 hc
  rw [List.length_take, List.length_drop] at hj
  have hl : (lb p).length = p.size := rfl
  rw [List.getElem_take, List.getElem_drop] at e2
  have := h (bg + j) (by omega) (by omega)
  rw [bt_at (by omega)] at this
  simp only [e2] at this
  exact this (by decide)
theorem PaRel.start {p : ByteArray} : PaRel p 1 1 [] := ⟨Nat.le_refl _, Nat.le_refl _, fun j h1 h2 => by omega, rfl, by simp⟩
theorem PaRel.step {p : ByteArray} {i bg : Nat} {done : List ByteArray} (h : PaRel p i bg done) (hc : bt p i ≠ 47) : PaRel p (i + 1) bg done :=
  ⟨by have := h.le; omega, h.pos, fun j h1 h2 => by
    by_cases e : j = i
    · subst e; exact hc
    · exact h.clean j h1 (by omega), h.sofar, h.names⟩
theorem PaRel.split {p : ByteArray} {i bg : Nat} {done : List ByteArray} (h : PaRel p i bg done) (hi : i < p.size) (hc : bt p i = 47) : (segs ((lb p).drop 1)).map ba = (done ++ [p.extract bg i]) ++ (segs ((lb p).drop (i + 1))).map ba := by
  have hl : (lb p).length = p.size := rfl
  have e : (lb p).drop bg = ((lb p).drop bg).take (i - bg) ++ 47 :: (lb p).drop (i + 1) := by
    have h1 : ((lb p).drop bg).drop (i - bg) = 47 :: (lb p).drop (i + 1) := by
      rw [List.drop_drop, show bg + (i - bg) = i from by have := h.le; omega, List.drop_eq_getElem_cons (by omega)]
      congr 1
      have := bt_at hi
      rw [hc] at this
      have h2 : ((lb p)[i]'(by omega)).toNat = 47 := by omega
      exact UInt8.toNat_inj.1 h2
    rw [← h1, List.take_append_drop]
  rw [h.sofar, e, segs_cut _ _ (clean_list (by omega) h.clean), List.map_cons, List.append_assoc]
  congr 1
  rw [← ext_list, ba_lb]; rfl
theorem PaRel.fin {p : ByteArray} {i bg : Nat} {done : List ByteArray} (h : PaRel p i bg done) (hi : i = p.size) : (segs ((lb p).drop 1)).map ba = done ++ [p.extract bg i] := by
  have hl : (lb p).length = p.size := rfl
  have e : (lb p).drop bg = ((lb p).drop bg).take (i - bg) := by rw [List.take_of_length_le (by rw [List.length_drop]; omega)]
  rw [h.sofar, e, segs_none _ (clean_list (by omega) h.clean), List.map_cons, List.map_nil, ← ext_list, ba_lb]
theorem PaRel.next {p : ByteArray} {i bg : Nat} {done : List ByteArray} (h : PaRel p i bg done) (hi : i < p.size) (hc : bt p i = 47) (hn : nameB (p.extract bg i) = true) : PaRel p (i + 1) (i + 1) (done ++ [p.extract bg i]) :=
  ⟨Nat.le_refl _, by omega, fun j h1 h2 => by omega, h.split hi hc, fun s hs => by
    rcases List.mem_append.1 hs with q | q
    · exact h.names s q
    · simp at q; subst q; exact hn⟩
theorem splitB_rest {p : ByteArray} (h1 : 1 < p.size) (h0 : bt p 0 = 47) : splitB p = if (∀ s ∈ (segs ((lb p).drop 1)).map ba, nameB s = true) ∧ ((segs ((lb p).drop 1)).map ba).length ≤ 4 then ((segs ((lb p).drop 1)).map ba, true) else ([], false) := by
  have hl : (lb p).length = p.size := rfl
  unfold splitB
  have e : lb p = 47 :: (lb p).drop 1 := by
    have := List.drop_eq_getElem_cons (l := lb p) (i := 0) (by omega)
    rw [List.drop_zero] at this
    rw [this]
    congr 1
    have h2 := bt_at (s := p) (j := 0) (by omega)
    rw [h0] at h2
    have h3 : ((lb p)[0]'(by omega)).toNat = 47 := by omega
    exact UInt8.toNat_inj.1 h3
  have hne : (lb p).drop 1 ≠ [] := fun e => by have := congrArg List.length e; rw [List.length_drop] at this; simp at this; omega
  generalize (lb p).drop 1 = r at *
  rw [e]
  unfold splitP
  simp only
  rw [if_pos trivial, if_neg hne, List.length_map]
  have hall : ((segs r).all nameL = true) ↔ ∀ s ∈ (segs r).map ba, nameB s = true := by
    rw [List.all_eq_true]
    constructor
    · intro h s hs
      obtain ⟨l, hl, rfl⟩ := List.mem_map.1 hs
      unfold nameB; rw [lb_ba]; exact h l hl
    · intro h l hl
      have := h (ba l) (List.mem_map.2 ⟨l, hl, rfl⟩)
      unfold nameB at this; rw [lb_ba] at this; exact this
  by_cases hq : (segs r).all nameL = true ∧ (segs r).length ≤ 4
  · rw [if_pos hq, if_pos ⟨hall.1 hq.1, hq.2⟩]
  · rw [if_neg hq, if_neg (fun k => hq ⟨hall.2 k.1, k.2⟩)]; rfl
end Go.Proofs.Ythfmjjaollekiaa
/- TreM: Trees, plain: where a node is, right files, right directories, right trees. Nothing of the program is read here. -/
namespace Go.Proofs.Ythfmjjaollekiaa
set_option maxRecDepth 100000

/-- The place of a node, -1 without one. -/
def atI (ns : List NM) (id : Int) : Int := match ns.findIdx? (fun n => n.id == id) with
  | some i => (i : Int)
  | none => -1
theorem atI_none {ns : List NM} {id : Int} (h : ∀ n ∈ ns, n.id ≠ id) : atI ns id = -1 := by
  unfold atI
  rw [List.findIdx?_eq_none_iff.2 (fun n hn => by simpa using h n hn)]
theorem atI_some {ns : List NM} {id : Int} {i : Nat} (hi : i < ns.length) (h : ns[i].id = id) (hl : ∀ j, j < i → ∀ hj : j < ns.length, ns[j].id ≠ id) : atI ns id = (i : Int) := by
  unfold atI
  have : ns.findIdx? (fun n => n.id == id) = some i := by
    rw [List.findIdx?_eq_some_iff_getElem]
    exact ⟨hi, by simpa using h, fun j hj => by simpa using hl j hj (by omega)⟩
  rw [this]
theorem atI_cases (ns : List NM) (id : Int) : (atI ns id = -1 ∧ ∀ n ∈ ns, n.id ≠ id) ∨ ∃ i, ∃ hi : i < ns.length, atI ns id = (i : Int) ∧ ns[i].id = id := by
  unfold atI
  cases h : ns.findIdx? (fun n => n.id == id) with
  | none =>
    left
    exact ⟨rfl, fun n hn => by have := List.findIdx?_eq_none_iff.1 h n hn; simpa using this⟩
  | some i =>
    right
    obtain ⟨hi, h1, _⟩ := List.findIdx?_eq_some_iff_getElem.1 h
    exact ⟨i, hi, rfl, by simpa using h1⟩
def inI (x a b : Int) : Bool := decide (a ≤ x) && decide (x ≤ b)
theorem inI_iff {x a b : Int} : inI x a b = true ↔ a ≤ x ∧ x ≤ b := by unfold inI; simp
def pieceOk (s : Int) (p : PM) : Bool := inI p.group 1 100000 && inI p.len 1 (groupN s : Nat)
/-- How many bytes pieces have. -/
def sumP : List PM → Int
  | [] => 0
  | p :: ps => p.len + sumP ps
theorem sumP_append (a b : List PM) : sumP (a ++ b) = sumP a + sumP b := by
  induction a with
  | nil => simp [sumP]
  | cons p a ih => simp only [List.cons_append, sumP, ih]; omega
theorem sumP_take (ps : List PM) (k : Nat) (h : k < ps.length) : sumP (ps.take (k + 1)) = sumP (ps.take k) + ps[k].len := by
  rw [List.take_succ_eq_append_getElem h, sumP_append]
  simp [sumP]
theorem sumP_ok {s : Int} {ps : List PM} (h : ∀ p ∈ ps, pieceOk s p = true) : 0 ≤ sumP ps ∧ sumP ps ≤ 32 * ps.length := by
  induction ps with
  | nil => simp [sumP]
  | cons p ps ih =>
    have h1 := ih (fun q hq => h q (by simp [hq]))
    have h2 := h p (by simp)
    unfold pieceOk at h2
    rw [Bool.and_eq_true, inI_iff, inI_iff] at h2
    have h3 := groupN_bounds s
    simp only [sumP, List.length_cons]
    push_cast
    omega
/-- Right for a file. -/
def fileOk (n : NM) : Bool := inI n.schema 1 3 && (n.quota == 0) && decide (n.pieces.length ≤ 40) && inI n.writer 0 9 && n.pieces.all (pieceOk n.schema) && (sumP n.pieces == n.len) && decide (sumP n.pieces ≤ 1000)
/-- Right for a directory. -/
def dirOk (n : NM) : Bool := inI n.schema 0 3 && inI n.quota 0 1000 && (n.len == 0) && decide (n.pieces.length = 0) && (n.writer == 0)
/-- Right for the node that comes first. -/
def firstOk (n : NM) : Bool := (n.id == 1) && (n.parent == 0) && decide (n.name = ⟨#[]⟩) && n.dir && (n.schema != 0)
/-- So many steps up, and the first node is there. -/
def climbs (ns : List NM) : Nat → Int → Bool
  | 0, _ => false
  | f + 1, id => match ns.findIdx? (fun n => n.id == id) with
    | none => false
    | some k => if (ns.getD k default).parent = 1 then true else climbs ns f (ns.getD k default).parent
/-- Right at its place. -/
def nodeOk (T : TM) (i : Nat) : Bool :=
  decide ((T.nodes.getD i default).id < T.next) && (if i = 0 then firstOk (T.nodes.getD i default) else decide ((T.nodes.getD (i - 1) default).id < (T.nodes.getD i default).id)) &&
  (if (T.nodes.getD i default).dir then dirOk (T.nodes.getD i default) else fileOk (T.nodes.getD i default)) &&
  (decide (i = 0) || (nameB (T.nodes.getD i default).name && decide (0 ≤ atI T.nodes (T.nodes.getD i default).parent) && (T.nodes.getD (atI T.nodes (T.nodes.getD i default).parent).toNat default).dir &&
    (List.range i).all (fun j => ! (((T.nodes.getD j default).parent == (T.nodes.getD i default).parent) && decide ((T.nodes.getD j default).name = (T.nodes.getD i default).name))) && climbs T.nodes 4 (T.nodes.getD i default).id))
def treeOk (T : TM) : Bool := decide (1 ≤ T.nodes.length) && decide (T.nodes.length ≤ 14) && decide (T.next ≤ 100000) && (List.range T.nodes.length).all (nodeOk T)
end Go.Proofs.Ythfmjjaollekiaa
/- TreP: The walks of the models' TreeNew, l10At, l10File. -/
namespace Go.Proofs.Ythfmjjaollekiaa
set_option maxRecDepth 100000
open Go.RowKit
attribute [local go_sem ↓] Go.wp_at_zero Go.wp_at_succ

theorem nds_at (rs : List NR) (i : Nat) (h : i < rs.length) : (nds rs)[i]'(by rw [nds_len]; exact h) = rs[i].nd := by simp [nds]
set_option maxHeartbeats 1000000 in
theorem specAt {w : World} {v : Value} {T : TM} {lo hi : Nat} (id : Int) (h : TSee w v T lo hi) (hl : T.nodes.length ≤ 1048576) : Calls Try.prog 29 #[v, .int .i64 id] w fun e w' => e = .returned (.int .i64 (atI T.nodes id)) ∧ Below w.heap.size w w' := by
  obtain ⟨a, cap, rs, rfl, hr, hm⟩ := h
  obtain ⟨n, hn⟩ : ∃ n, n = rs.length := ⟨_, rfl⟩
  have hnl : n = T.nodes.length := by rw [hn, ← hr, nds_len]
  have HN := Shut.mk (And.intro hn hr)
  obtain ⟨R, hR⟩ : ∃ R, R = atI T.nodes id := ⟨_, rfl⟩
  have HRR := Shut.mk hR
  have hn9 : n ≤ 1048576 := by omega
  rw [← hR, ← hn]
  generalize T.next = nx at *
  obtain ⟨W, hW⟩ : ∃ W, W = w.alloc (.cells #[.slice a n cap, .int .i64 nx] 26) := ⟨_, rfl⟩
  have HB : Shut (Below w.heap.size w W) := ⟨by rw [hW]; exact (Below.refl _ _).alloc (Nat.le_refl _) _⟩
  have HM := Shut.mk (hm.below HB.out)
  have x0 : W.cell? ⟨w.heap.size, 0, none⟩ = some (.slice a n cap) := by rw [hW]; exact ((wcells_new w #[.slice a n cap, .int .i64 nx] 26).2 0 _ rfl).1
  clear hm hr hn hnl hR hl
  go_enter Try.func29, Try.ntmps29
  go_upto_region 1 with fail
  rw [← hW]
  clear hW
  go_wp2_with fail
  go_loopw [5] (fun i wr => ∃ (k : Nat), i = .int .i64 k ∧ k ≤ n ∧ Shut (∀ j, j < k → ∀ hj : j < T.nodes.length, T.nodes[j].id ≠ id) ∧ wr = W) (fun i _ => n - (intOf i).toNat)
  case atStart => exact ⟨0, rfl, Nat.zero_le _, ⟨fun j hj => by omega⟩, rfl⟩
  case round =>
    obtain ⟨k, rfl, hk, hall, rfl⟩ := hrel
    by_cases hlt : k < n
    · have hlr : k < rs.length := by have := HN.out.1; omega
      have htl : k < T.nodes.length := by rw [← HN.out.2, nds_len]; exact hlr
      obtain ⟨b, off, rfl, lb, hc⟩ := TR.nat HM.out (by omega)
      have d0 := (hc k hlr).1
      have hid : rs[k].nd = T.nodes[k] := by
        have := nds_at rs k hlr
        rw [← this]
        simp only [HN.out.2]
      rw [hid] at d0
      have k0 : (0 : Int) ≤ (k : Int) := by omega
      have k1 : (k : Int) < (n : Int) := by omega
      clear hc hid
      by_cases he : T.nodes[k].id = id
      · have HE : Shut (R = (k : Int)) := ⟨by rw [HRR.out]; exact atI_some htl he hall.out⟩
        have he' : (T.nodes[k].id == id) = true := by simpa using he
        generalize T.nodes[k].id = q at *
        go_wp2_with fail
        go_ret
        exact ⟨by rw [HE.out]; rfl, HB.out⟩
      · have he' : (T.nodes[k].id == id) = false := by simpa using he
        have HNX : Shut (∀ j, j < k + 1 → ∀ hj : j < T.nodes.length, T.nodes[j].id ≠ id) := ⟨fun j hj hj2 => by
          by_cases e : j = k
          · subst e; exact he
          · exact hall.out j (by omega) hj2⟩
        generalize T.nodes[k].id = q at *
        go_wp2_with fail
        go_roundw
        case rel => exact ⟨k + 1, by go_num, by omega, HNX, by first | rfl | trivial⟩
        case measure => simp [intOf]; omega
    · have hlt' : ¬ (k : Int) < (n : Int) := by omega
      have HE : Shut (R = -1) := ⟨by
        rw [HRR.out]
        refine atI_none (fun m hm => ?_)
        obtain ⟨j, hj, rfl⟩ := List.mem_iff_getElem.1 hm
        exact hall.out j (by rw [← HN.out.2, nds_len] at hj; have := HN.out.1; omega) hj⟩
      go_wp2_with fail
      go_ret
      exact ⟨by rw [HE.out]; rfl, HB.out⟩
end Go.Proofs.Ythfmjjaollekiaa
