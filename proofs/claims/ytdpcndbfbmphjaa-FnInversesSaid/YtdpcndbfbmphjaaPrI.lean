/- Rows of bytes that are turned in place: in memory. -/
import Derived.Test.YtdpcndbfbmphjaaPrH
namespace Go.Proofs.Ytdpcndbfbmphjaa
open Go.RowKit
open W (B8 Mx)
attribute [local irreducible] W.gm W.xs W.mm W.gi matOk

theorem ks_set {ss : List KS} {i : Nat} (s : KS) (hi : i < ss.length) (k : Nat) : (ss.set i s).getD k default = if k = i then s else ss.getD k default := by
  rw [List.getD_eq_getElem?_getD, List.getD_eq_getElem?_getD, List.getElem?_set]
  by_cases e : i = k
  · subst e; rw [if_pos rfl, if_pos rfl, if_pos hi]; rfl
  · rw [if_neg e, if_neg (Ne.symm e)]
theorem kws_at (ss : List KS) (i : Nat) : (kws ss).getD i [] = (ss.getD i default).row := by
  unfold kws
  rw [List.getD_eq_getElem?_getD, List.getElem?_map, List.getD_eq_getElem?_getD]
  cases ss[i]? <;> rfl
theorem kvs_at {ss : List KS} {i : Nat} (hi : i < ss.length) : (kvs ss)[i]? = some (ksv (ss.getD i default)) := by
  rw [kvs_get ss i hi]; simp [List.getD, hi]
/-- A row of rows of bytes that may be written: each row in a block of its own, all from B on. -/
structure KX (w : World) (B g : Nat) (ss : List KS) : Prop where
  out : WCells w g (kvs ss)
  glo : B ≤ g
  rows : ∀ i, i < ss.length → ∃ b, (ss.getD i default).loc = some ⟨b, 0, none⟩ ∧ B ≤ b ∧ b ≠ g ∧ WCells w b (ucs (ss.getD i default).row) ∧ (ss.getD i default).row.length ≤ (ss.getD i default).cap
  apart : ∀ i j, i < j → j < ss.length → (ss.getD i default).loc ≠ (ss.getD j default).loc
theorem KX.ne {w : World} {B g : Nat} {ss : List KS} (h : KX w B g ss) {i j : Nat} (hi : i < ss.length) (hj : j < ss.length) (hij : i ≠ j) : (ss.getD i default).loc ≠ (ss.getD j default).loc := by
  rcases Nat.lt_or_gt_of_ne hij with q | q
  · exact h.apart i j q hj
  · exact (h.apart j i q hi).symm
theorem KW.kx {w : World} {g lo hi : Nat} {ss : List KS} (h : KW w g ss lo hi) : KX w lo g ss := by
  refine ⟨h.out, h.glo, fun i hi => ?_, fun i j hij hj e => ?_⟩
  · have e : ss.getD i default = ss[i] := by simp [List.getD, hi]
    rw [e]
    obtain ⟨b, e1, h1, _, h3, h4, h5⟩ := h.rows ss[i] (List.getElem_mem hi)
    exact ⟨b, e1, h1, h3, h4, h5⟩
  · have hi : i < ss.length := by omega
    have e1 : ss.getD i default = ss[i] := by simp [List.getD, hi]
    have e2 : ss.getD j default = ss[j] := by simp [List.getD, hj]
    rw [e1, e2] at e
    have := List.pairwise_iff_getElem.1 h.apart i j (by simpa using hi) (by simpa using hj) hij
    simp at this
    exact this e
theorem KX.below {w w' : World} {B g : Nat} {ss : List KS} (h : KX w B g ss) (hb : Below w.heap.size w w') : KX w' B g ss :=
  ⟨h.out.below hb h.out.1, h.glo, fun i hi => by
    obtain ⟨b, e, h1, h2, h3, h4⟩ := h.rows i hi
    exact ⟨b, e, h1, h2, h3.below hb h3.1, h4⟩, h.apart⟩
/-- A row is turned. -/
theorem KX.setRow {w w' : World} {B g : Nat} {ss : List KS} (h : KX w B g ss) {i b : Nat} {r : List B8} (hi : i < ss.length) (hloc : (ss.getD i default).loc = some ⟨b, 0, none⟩) (hg : w.grownBy w' (some b)) (hc : WCells w' b (ucs r)) (hl : r.length = (ss.getD i default).row.length) :
    KX w' B g (ss.set i ⟨some ⟨b, 0, none⟩, r, (ss.getD i default).cap⟩) := by
  obtain ⟨b0, e0, h1, h2, h3, h4⟩ := h.rows i hi
  have eb : b0 = b := congrArg Addr.block (Option.some.inj (e0.symm.trans hloc))
  subst eb
  have eg : ss.getD i default = ss[i] := by simp [List.getD, hi]
  have ek : kvs (ss.set i ⟨some ⟨b0, 0, none⟩, r, (ss.getD i default).cap⟩) = kvs ss := by
    unfold kvs
    rw [List.map_set]
    have : ksv ⟨some ⟨b0, 0, none⟩, r, (ss.getD i default).cap⟩ = ksv (ss.getD i default) := by unfold ksv; simp only [hl, hloc]
    rw [this, eg]
    apply List.ext_getElem (by simp)
    intro k q1 q2
    rw [List.getElem_set]
    split
    · rename_i e; subst e; simp
    · rfl
  refine ⟨by rw [ek]; exact h.out.apart hg (Ne.symm h2), h.glo, fun k hk => ?_, fun k j hkj hj => ?_⟩
  · rw [List.length_set] at hk
    rw [ks_set _ hi]
    by_cases e : k = i
    · rw [if_pos e]
      exact ⟨b0, rfl, h1, h2, hc, by show r.length ≤ _; rw [hl]; exact h4⟩
    · rw [if_neg e]
      obtain ⟨b1, e1, q1, q2, q3, q4⟩ := h.rows k hk
      refine ⟨b1, e1, q1, q2, q3.apart hg (fun eb => ?_), q4⟩
      subst eb
      exact h.ne hk hi e (e1.trans e0.symm)
  · rw [List.length_set] at hj
    rw [ks_set _ hi, ks_set _ hi]
    by_cases e1 : k = i
    · rw [if_pos e1, if_neg (by omega)]
      show some _ ≠ _
      rw [← hloc]
      exact h.ne hi hj (by omega)
    · rw [if_neg e1]
      by_cases e2 : j = i
      · rw [if_pos e2]
        show _ ≠ some _
        rw [← hloc]
        exact h.ne (by omega) hi e1
      · rw [if_neg e2]; exact h.apart k j hkj hj
def swapK (p c : Nat) (ss : List KS) : List KS := (ss.set p (ss.getD c default)).set c (ss.getD p default)
theorem swapK_len (p c : Nat) (ss : List KS) : (swapK p c ss).length = ss.length := by simp [swapK]
theorem kws_set (ss : List KS) (i : Nat) (s : KS) : kws (ss.set i s) = (kws ss).set i s.row := by simp [kws, List.map_set]
theorem kvs_set (ss : List KS) (i : Nat) (s : KS) : (kvs ss).set i (ksv s) = kvs (ss.set i s) := by simp [kvs, List.map_set]
theorem kws_swap (p c : Nat) (ss : List KS) : kws (swapK p c ss) = swapU p c (kws ss) := by
  unfold swapK swapU
  rw [kws_set, kws_set, kws_at, kws_at]
theorem swapK_at {ss : List KS} {p c : Nat} (hp : p < ss.length) (hc : c < ss.length) (i : Nat) : (swapK p c ss).getD i default = ss.getD (if i = p then c else if i = c then p else i) default := by
  unfold swapK
  rw [ks_set _ (by rw [List.length_set]; exact hc)]
  by_cases e2 : i = c
  · rw [if_pos e2]
    by_cases e1 : i = p
    · rw [if_pos e1, ← e2, e1]
    · rw [if_neg e1, if_pos e2]
  · rw [if_neg e2, ks_set _ hp]
    by_cases e1 : i = p
    · rw [if_pos e1, if_pos e1]
    · rw [if_neg e1, if_neg e1, if_neg e2]
/-- Two rows in each other's place. -/
theorem KX.swap {w : World} {B g : Nat} {ss : List KS} (h : KX w B g ss) {p c : Nat} (hp : p < ss.length) (hc : c < ss.length) :
    KX ((w.setCell ⟨g, p, none⟩ (ksv (ss.getD c default))).setCell ⟨g, c, none⟩ (ksv (ss.getD p default))) B g (swapK p c ss) := by
  refine ⟨?_, h.glo, fun i hi => ?_, fun i j hij hj => ?_⟩
  · have h1 := h.out.set p (ksv (ss.getD c default)) (by rw [kvs_len]; exact hp)
    rw [kvs_set] at h1
    have h2 := h1.set c (ksv (ss.getD p default)) (by rw [kvs_len, List.length_set]; exact hc)
    rw [kvs_set] at h2
    exact h2
  · rw [swapK_len] at hi
    rw [swapK_at hp hc]
    obtain ⟨b, e, q1, q2, q3, q4⟩ := h.rows (if i = p then c else if i = c then p else i) (by split; exact hc; split; exact hp; exact hi)
    exact ⟨b, e, q1, q2, (q3.other ⟨g, p, none⟩ _ q2).other ⟨g, c, none⟩ _ q2, q4⟩
  · rw [swapK_len] at hj
    rw [swapK_at hp hc, swapK_at hp hc]
    refine h.ne (by split; exact hc; split; exact hp; omega) (by split; exact hc; split; exact hp; exact hj) ?_
    split
    · split
      · omega
      · split <;> omega
    · split
      · split
        · omega
        · split <;> omega
      · split
        · omega
        · split <;> omega
/-- What a walk wants of a row. -/
theorem KX.at {w : World} {B g m : Nat} {ss : List KS} (h : KX w B g ss) {i : Nat} (hi : i < ss.length) (hm : ((kws ss).getD i []).length = m) : ∃ b cp, (ss.getD i default).loc = some ⟨b, 0, none⟩ ∧ (ss.getD i default).cap = cp ∧ B ≤ b ∧ b ≠ g ∧ b < w.heap.size ∧ m ≤ cp ∧ w.cell? ⟨g, i, none⟩ = some (.slice (some ⟨b, 0, none⟩) m cp) ∧ w.frozen? ⟨g, i, none⟩ = false ∧ WCells w b (ucs ((kws ss).getD i [])) ∧ ksv (ss.getD i default) = .slice (some ⟨b, 0, none⟩) m cp := by
  obtain ⟨b, e, h1, h2, h3, h4⟩ := h.rows i hi
  have hk := h.out.2 i _ (kvs_at hi)
  rw [kws_at] at hm ⊢
  have ev : ksv (ss.getD i default) = .slice (some ⟨b, 0, none⟩) m (ss.getD i default).cap := by unfold ksv; rw [e, hm]
  rw [ev] at hk
  exact ⟨b, _, e, rfl, h1, h2, h3.1, by omega, hk.1, hk.2, h3, ev⟩
end Go.Proofs.Ytdpcndbfbmphjaa
