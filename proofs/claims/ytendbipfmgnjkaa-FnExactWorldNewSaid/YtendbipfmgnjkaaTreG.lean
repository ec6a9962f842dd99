/- Marks over trees: plain, and what marking turns in memory. -/
import Derived.Test.YtendbipfmgnjkaaTreF
import Derived.Test.YtendbipfmgnjkaaStrsB
namespace Go.Proofs.Ytendbipfmgnjkaa
set_option maxRecDepth 100000
open Go.RowKit

def markPs (k n : Nat) : List PM := (List.range n).map fun i => ⟨((k + 2 * i : Nat) : Int), ((k + 2 * i + 1 : Nat) : Int)⟩
theorem markPs_len (k n : Nat) : (markPs k n).length = n := by simp [markPs]
def markDir (k : Nat) : Bool := decide (k % 3 = 0)
def markN (k np : Nat) : NM := ⟨(k : Int), ((k + 1 : Nat) : Int), mt (k + 2), markDir (k + 3), ((k + 4 : Nat) : Int), ((k + 5 : Nat) : Int), ((k + 6 : Nat) : Int), markPs (k + 7) np, ((k + 7 + 2 * np : Nat) : Int)⟩
/-- A row of nodes, marked from k on. -/
def markRs (k : Nat) : List NR → List NR
  | [] => []
  | r :: rs => ⟨markN k r.nd.pieces.length, r.loc, r.cap⟩ :: markRs (k + 8 + 2 * r.nd.pieces.length) rs
/-- Where the marks end. -/
def markK (k : Nat) : List NM → Nat
  | [] => k
  | n :: ns => markK (k + 8 + 2 * n.pieces.length) ns
theorem markRs_len (k : Nat) (rs : List NR) : (markRs k rs).length = rs.length := by
  induction rs generalizing k with
  | nil => rfl
  | cons r rs ih => simp only [markRs, List.length_cons, ih]
theorem markK_snoc (k : Nat) (ns : List NM) (n : NM) : markK k (ns ++ [n]) = markK k ns + 8 + 2 * n.pieces.length := by
  induction ns generalizing k with
  | nil => rfl
  | cons x ns ih => simp only [List.cons_append, markK, ih]
theorem markRs_snoc (k : Nat) (rs : List NR) (r : NR) : markRs k (rs ++ [r]) = markRs k rs ++ [⟨markN (markK k (nds rs)) r.nd.pieces.length, r.loc, r.cap⟩] := by
  induction rs generalizing k with
  | nil => rfl
  | cons x rs ih => simp only [List.cons_append, markRs, ih, nds, List.map_cons, markK]
theorem markK_le (k : Nat) (ns : List NM) : k ≤ markK k ns ∧ markK k ns ≤ k + 8 * ns.length + 2 * nsum ns := by
  induction ns generalizing k with
  | nil => simp [markK, nsum]
  | cons n ns ih => have := ih (k + 8 + 2 * n.pieces.length); simp only [markK, nsum, List.length_cons]; omega
theorem markK_low (k : Nat) (ns : List NM) : k + ns.length ≤ markK k ns := by
  induction ns generalizing k with
  | nil => simp [markK]
  | cons n ns ih => simp only [List.length_cons, markK]; have := ih (k + 8 + 2 * n.pieces.length); omega
theorem markK_part (k : Nat) (ns : List NM) (i : Nat) : markK k (ns.take i) ≤ markK k ns := by
  induction ns generalizing k i with
  | nil => simp
  | cons n ns ih =>
    cases i with
    | zero => simp only [List.take_zero]; exact (markK_le k _).1
    | succ i => simp only [List.take_succ_cons, markK]; exact ih _ _
theorem ncs_get (ts : List NR) (j : Nat) (h : j < ts.length) (i : Nat) (hi : i < 9) : (ncs ts)[j * 9 + i]? = (ncells ts[j])[i]? := flat_get ncells_len ts j h i hi
/-- One cell of one node is another. -/
theorem ncs_set1 (ts : List NR) (i : Nat) (hi : i < ts.length) (f : Nat) (hf : f < 9) (r : NR) (v : Value) (h1 : (ncells r)[f]? = some v) (h2 : ∀ q, q < 9 → q ≠ f → (ncells r)[q]? = (ncells ts[i])[q]?) : (ncs ts).set (i * 9 + f) v = ncs (ts.set i r) := by
  have hlen : (ncs ts).length = ts.length * 9 := ncs_len ts
  apply List.ext_getElem?
  intro n
  by_cases hn : n < ts.length * 9
  · have hs := flat_set ncells_len ts i hi r n hn
    show _ = ((ts.set i r).flatMap ncells)[n]?
    rw [hs]
    have hm := Nat.mod_lt n (show 0 < 9 by decide)
    have he : n = n / 9 * 9 + n % 9 := by omega
    by_cases e : n = i * 9 + f
    · have e1 : n / 9 = i := by omega
      have e2 : n % 9 = f := by omega
      rw [if_pos e1, e2, h1, ← e, List.getElem?_set_self (by rw [hlen]; exact hn)]
    · rw [List.getElem?_set_ne (by omega)]
      by_cases e1 : n / 9 = i
      · rw [if_pos e1, h2 _ hm (by omega)]
        have := ncs_get ts i hi (n % 9) hm
        rw [← this]
        congr 1
        omega
      · rw [if_neg e1]; rfl
  · rw [List.getElem?_eq_none (by rw [List.length_set, hlen]; omega), List.getElem?_eq_none (by rw [ncs_len, List.length_set]; omega)]
theorem apart_set {rs : List NR} (h : rs.Pairwise fun r s => NKind.inn r ≠ [] → NKind.inn s ≠ [] → NKind.loc r ≠ NKind.loc s) (j : Nat) (hj : j < rs.length) (r : NR) (hi : pcs r.nd.pieces ≠ [] → pcs rs[j].nd.pieces ≠ []) (hl : r.loc = rs[j].loc) : (rs.set j r).Pairwise fun r s => NKind.inn r ≠ [] → NKind.inn s ≠ [] → NKind.loc r ≠ NKind.loc s := by
  have ha := List.pairwise_iff_getElem.1 h
  refine List.pairwise_iff_getElem.2 (fun a b ha' hb' hab h1 h2 => ?_)
  rw [List.length_set] at ha' hb'
  rw [List.getElem_set] at h1 ⊢
  rw [List.getElem_set] at h2 ⊢
  by_cases ea : j = a
  · subst ea
    rw [if_pos rfl] at h1 ⊢
    rw [if_neg (by omega)] at h2 ⊢
    show r.loc ≠ _
    rw [hl]
    exact ha j b ha' hb' hab (hi h1) h2
  · rw [if_neg ea] at h1 ⊢
    by_cases eb : j = b
    · subst eb
      rw [if_pos rfl] at h2 ⊢
      show _ ≠ r.loc
      rw [hl]
      exact ha a j ha' hb' hab h1 (hi h2)
    · rw [if_neg eb] at h2 ⊢
      exact ha a b ha' hb' hab h1 h2
theorem TW.cell {w : World} {g : Nat} {ts : List NR} {lo hi : Nat} (h : TW w g ts lo hi) (i : Nat) (hi' : i < ts.length) (f : Nat) (hf : f < 9) (r : NR) (v : Value) (h1 : (ncells r)[f]? = some v) (h2 : ∀ q, q < 9 → q ≠ f → (ncells r)[q]? = (ncells ts[i])[q]?)
    (hin : r.nd.pieces = ts[i].nd.pieces) (hloc : r.loc = ts[i].loc) : TW (w.setCell ⟨g, i * 9 + f, none⟩ v) g (ts.set i r) lo hi := by
  have hout := h.out.set (i * 9 + f) v (by rw [NKind.cells_len]; show i * 9 + f < ts.length * 9; omega)
  have e : (NKind.cells ts).set (i * 9 + f) v = NKind.cells (ts.set i r) := ncs_set1 ts i hi' f hf r v h1 h2
  rw [e] at hout
  refine ⟨hout, h.glo, h.ghi, fun s hs => ?_, apart_set h.apart i hi' r (fun q => by rw [← hin]; exact q) hloc⟩
  have key : ∀ s ∈ ts, NKind.inn s = [] ∨ ∃ b, NKind.loc s = some ⟨b, 0, none⟩ ∧ lo ≤ b ∧ b < hi ∧ b ≠ g ∧ WCells (w.setCell ⟨g, i * 9 + f, none⟩ v) b (NKind.inn s) := fun s hs => by
    rcases h.rows s hs with q | ⟨b, e, q1, q2, q3, q4⟩
    · exact .inl q
    · exact .inr ⟨b, e, q1, q2, q3, q4.other _ _ q3⟩
  rcases List.mem_or_eq_of_mem_set hs with q | q
  · exact key s q
  · subst q
    have := key ts[i] (List.getElem_mem hi')
    show pcs s.nd.pieces = [] ∨ ∃ b, s.loc = _ ∧ _ ∧ _ ∧ _ ∧ WCells _ b (pcs s.nd.pieces)
    rw [hin, hloc]
    exact this
theorem TW.cell' {w : World} {g : Nat} {ts : List NR} {lo hi : Nat} (h : TW w g ts lo hi) (i : Nat) (hi' : i < ts.length) (r0 : NR) (hat : ts[i] = r0) (f : Nat) (hf : f < 9) (r : NR) (v : Value) (h1 : (ncells r)[f]? = some v) (h2 : ∀ q, q < 9 → q ≠ f → (ncells r)[q]? = (ncells r0)[q]?)
    (hin : r.nd.pieces = r0.nd.pieces) (hloc : r.loc = r0.loc) : TW (w.setCell ⟨g, i * 9 + f, none⟩ v) g (ts.set i r) lo hi := by
  subst hat
  exact h.cell i hi' f hf r v h1 h2 hin hloc
theorem TW.pieces {w w2 : World} {g : Nat} {ts : List NR} {lo hi : Nat} (h : TW w g ts lo hi) (i : Nat) (hi' : i < ts.length) (b : Nat) (hb : ts[i].loc = some ⟨b, 0, none⟩) (hne : ts[i].nd.pieces ≠ []) (r : NR) (hc : ncells r = ncells ts[i]) (hloc : r.loc = ts[i].loc)
    (hw : WCells w2 b (pcs r.nd.pieces)) (hg : w.grownBy w2 (some b)) : TW w2 g (ts.set i r) lo hi := by
  obtain ⟨b', e', p1, p2, p3, p4⟩ : ∃ b, ts[i].loc = some ⟨b, 0, none⟩ ∧ lo ≤ b ∧ b < hi ∧ b ≠ g ∧ WCells w b (pcs ts[i].nd.pieces) := by
    rcases h.rows ts[i] (List.getElem_mem hi') with q | q
    · exact absurd q (pcs_ne hne)
    · exact q
  have eb : b' = b := congrArg Addr.block (Option.some.inj (e'.symm.trans hb))
  subst eb
  have hcs : NKind.cells (ts.set i r) = NKind.cells ts := by
    show (ts.set i r).flatMap ncells = ts.flatMap ncells
    apply List.ext_getElem?
    intro n
    by_cases hn : n < ts.length * 9
    · rw [flat_set ncells_len ts i hi' r n hn]
      split
      · rename_i e
        rw [hc]
        have := ncs_get ts i hi' (n % 9) (Nat.mod_lt n (by decide))
        rw [← this]
        show (ncs ts)[_]? = (ncs ts)[_]?
        congr 1
        omega
      · rfl
    · rw [List.getElem?_eq_none (by have := flat_len ncells_len (ts.set i r); rw [List.length_set] at this; omega), List.getElem?_eq_none (by have := flat_len ncells_len ts; omega)]
  refine ⟨by rw [hcs]; exact h.out.apart hg (Ne.symm p3), h.glo, h.ghi, fun s hs => ?_, apart_set h.apart i hi' r (fun _ => pcs_ne hne) hloc⟩
  obtain ⟨j, hj, rfl⟩ := List.mem_iff_getElem.1 hs
  rw [List.length_set] at hj
  rw [List.getElem_set]
  by_cases e : i = j
  · rw [if_pos e]
    exact .inr ⟨b', by show r.loc = _; rw [hloc, hb], p1, p2, p3, hw⟩
  · rw [if_neg e]
    rcases h.rows ts[j] (List.getElem_mem hj) with q | ⟨c, e2, q1, q2, q3, q4⟩
    · exact .inl q
    · by_cases hq : NKind.inn ts[j] = []
      · exact .inl hq
      · have hap : ts[i].loc ≠ ts[j].loc := by
          have ha := List.pairwise_iff_getElem.1 h.apart
          by_cases hij : i < j
          · exact ha i j hi' hj hij (pcs_ne hne) hq
          · exact (ha j i hj hi' (by omega) hq (pcs_ne hne)).symm
        have hcb : c ≠ b' := fun q => hap (by rw [hb, ← q]; exact e2.symm)
        exact .inr ⟨c, e2, q1, q2, q3, q4.apart hg hcb⟩
end Go.Proofs.Ytendbipfmgnjkaa
