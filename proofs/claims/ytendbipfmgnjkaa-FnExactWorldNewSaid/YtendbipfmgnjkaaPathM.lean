/- Paths, plain: names, what lies between slashes, paths and their names. Nothing of the program is read here. -/
import Derived.Test.YtendbipfmgnjkaaBytes
import Derived.PlainAid
namespace Go.Proofs.Ytendbipfmgnjkaa
set_option maxRecDepth 100000
open Go.PlainAid (bt)

def nameC (c : UInt8) : Bool := (decide (97 ≤ c.toNat) && decide (c.toNat ≤ 122)) || (decide (48 ≤ c.toNat) && decide (c.toNat ≤ 57))
def nameL (l : List UInt8) : Bool := l.all nameC && (decide (1 ≤ l.length) && decide (l.length ≤ 8))
theorem nameC_slash {c : UInt8} (h : nameC c = true) : c ≠ 47 := by
  intro e; subst e; exact absurd h (by decide)
theorem nameL_slash {l : List UInt8} (h : nameL l = true) : ∀ c ∈ l, c ≠ 47 := fun c hc => by
  unfold nameL at h
  rw [Bool.and_eq_true, List.all_eq_true] at h
  exact nameC_slash (h.1 c hc)
theorem nameL_pos {l : List UInt8} (h : nameL l = true) : 1 ≤ l.length ∧ l.length ≤ 8 := by
  unfold nameL at h
  simp only [Bool.and_eq_true, decide_eq_true_eq] at h
  exact h.2
/-- What lies between slashes. -/
def segs : List UInt8 → List (List UInt8)
  | [] => [[]]
  | c :: r => if c = 47 then [] :: segs r else match segs r with
    | [] => [[c]]
    | h :: t => (c :: h) :: t
theorem segs_ne : ∀ l, segs l ≠ []
  | [] => by simp [segs]
  | c :: r => by
    unfold segs
    split
    · simp
    · split <;> simp
theorem segs_none : ∀ (l : List UInt8), (∀ c ∈ l, c ≠ 47) → segs l = [l]
  | [], _ => rfl
  | c :: r, h => by
    unfold segs
    rw [if_neg (h c (by simp)), segs_none r (fun x hx => h x (by simp [hx]))]
theorem segs_cons {c : UInt8} {r x : List UInt8} {t : List (List UInt8)} (h : c ≠ 47) (e : segs r = x :: t) : segs (c :: r) = (c :: x) :: t := by
  unfold segs
  rw [if_neg h, e]
theorem segs_cut : ∀ (a r : List UInt8), (∀ c ∈ a, c ≠ 47) → segs (a ++ 47 :: r) = a :: segs r
  | [], r, _ => by simp [segs]
  | c :: a, r, h => by
    exact segs_cons (h c (by simp)) (segs_cut a r (fun x hx => h x (by simp [hx])))
theorem segs_back : ∀ (l : List UInt8), ((segs l).map (47 :: ·)).flatten = 47 :: l
  | [] => rfl
  | c :: r => by
    have ih := segs_back r
    unfold segs
    split
    · rename_i e; subst e
      simp only [List.map_cons, List.flatten_cons, ih]; rfl
    · cases h : segs r with
      | nil => exact absurd h (segs_ne r)
      | cons x t =>
        rw [h] at ih
        simp only [List.map_cons, List.flatten_cons, List.cons_append] at ih ⊢
        rw [List.cons.injEq] at ih
        rw [ih.2]
/-- A path's names. -/
def splitP : List UInt8 → List (List UInt8) × Bool
  | [] => ([], false)
  | c :: r => if c = 47 then (if r = [] then ([], true) else if (segs r).all nameL = true ∧ (segs r).length ≤ 4 then (segs r, true) else ([], false)) else ([], false)
def joinP (L : List (List UInt8)) : List UInt8 := if L = [] then [47] else (L.map (47 :: ·)).flatten
theorem join_split {p : List UInt8} (h : (splitP p).2 = true) : joinP (splitP p).1 = p := by
  unfold splitP at h ⊢
  cases p with
  | nil => cases h
  | cons c r =>
    simp only at h ⊢
    by_cases hc : c = 47
    · subst hc
      rw [if_pos rfl] at h ⊢
      by_cases hr : r = []
      · subst hr; rfl
      · rw [if_neg hr] at h ⊢
        by_cases hq : (segs r).all nameL = true ∧ (segs r).length ≤ 4
        · rw [if_pos hq]
          show joinP (segs r) = 47 :: r
          unfold joinP
          rw [if_neg (segs_ne r), segs_back]
        · rw [if_neg hq] at h; cases h
    · rw [if_neg hc] at h; cases h
theorem segs_join : ∀ (x : List UInt8) (L : List (List UInt8)), (∀ l ∈ x :: L, nameL l = true) → segs (x ++ (L.map (47 :: ·)).flatten) = x :: L
  | x, [], h => by
    rw [List.map_nil, List.flatten_nil, List.append_nil]
    exact segs_none x (nameL_slash (h x (by simp)))
  | x, y :: L, h => by
    rw [List.map_cons, List.flatten_cons, List.cons_append, segs_cut x _ (nameL_slash (h x (by simp))), segs_join y L (fun l hl => h l (by simp at hl ⊢; exact .inr hl))]
theorem split_join {L : List (List UInt8)} (h : ∀ l ∈ L, nameL l = true) (h4 : L.length ≤ 4) : splitP (joinP L) = (L, true) := by
  cases L with
  | nil => rfl
  | cons x L =>
    have e : joinP (x :: L) = 47 :: (x ++ (L.map (47 :: ·)).flatten) := by unfold joinP; rw [if_neg (by simp)]; rfl
    rw [e]
    unfold splitP
    have hx := (nameL_pos (h x (by simp))).1
    have hne : x ++ (L.map (47 :: ·)).flatten ≠ [] := fun e => by
      have := congrArg List.length e
      rw [List.length_append] at this
      simp at this
      rw [this.1] at hx
      simp at hx
    simp only
    rw [if_pos trivial, if_neg hne, segs_join x L h, if_pos ⟨by rw [List.all_eq_true]; exact h, h4⟩]
theorem split_names {p : List UInt8} : (∀ l ∈ (splitP p).1, nameL l = true) ∧ (splitP p).1.length ≤ 4 := by
  unfold splitP
  cases p with
  | nil => exact ⟨by simp, by simp⟩
  | cons c r =>
    simp only
    split
    · split
      · exact ⟨by simp, by simp⟩
      · split
        · rename_i q
          rw [List.all_eq_true] at q
          exact q
        · exact ⟨by simp, by simp⟩
    · exact ⟨by simp, by simp⟩
/-- The same of texts. -/
abbrev ba (l : List UInt8) : ByteArray := ⟨l.toArray⟩
abbrev lb (s : ByteArray) : List UInt8 := s.data.toList
theorem ba_lb (s : ByteArray) : ba (lb s) = s := rfl
theorem lb_ba (l : List UInt8) : lb (ba l) = l := by simp [lb]
def nameB (s : ByteArray) : Bool := nameL (lb s)
def splitB (p : ByteArray) : List ByteArray × Bool := ((splitP (lb p)).1.map ba, (splitP (lb p)).2)
def joinB (L : List ByteArray) : ByteArray := ba (joinP (L.map lb))
def parentB (p : ByteArray) : ByteArray × ByteArray × Bool := if (splitB p).2 = true ∧ (splitB p).1 ≠ [] then (joinB (splitB p).1.dropLast, (splitB p).1.getLastD ⟨#[]⟩, true) else (⟨#[]⟩, ⟨#[]⟩, false)
theorem map_lb_ba (L : List (List UInt8)) : (L.map ba).map lb = L := by
  rw [List.map_map]
  exact List.map_id'' (fun l => lb_ba l) L
theorem map_ba_lb (L : List ByteArray) : (L.map lb).map ba = L := by
  rw [List.map_map]
  exact List.map_id'' (fun s => ba_lb s) L
theorem joinB_split {p : ByteArray} (h : (splitB p).2 = true) : joinB (splitB p).1 = p := by
  unfold joinB splitB
  simp only
  rw [map_lb_ba, join_split h]
theorem splitB_join {L : List ByteArray} (h : ∀ s ∈ L, nameB s = true) (h4 : L.length ≤ 4) : splitB (joinB L) = (L, true) := by
  unfold splitB joinB
  rw [lb_ba, split_join (L := L.map lb) (fun l hl => by obtain ⟨s, hs, rfl⟩ := List.mem_map.1 hl; exact h s hs) (by rw [List.length_map]; exact h4)]
  simp only
  rw [map_ba_lb]
theorem splitB_names (p : ByteArray) : (∀ s ∈ (splitB p).1, nameB s = true) ∧ (splitB p).1.length ≤ 4 := by
  have h := split_names (p := lb p)
  refine ⟨fun s hs => ?_, ?_⟩
  · obtain ⟨l, hl, rfl⟩ := List.mem_map.1 hs
    unfold nameB
    rw [lb_ba]
    exact h.1 l hl
  · show ((splitP (lb p)).1.map ba).length ≤ 4
    rw [List.length_map]; exact h.2
/-- Where the way through a path stands. -/
structure PaRel (p : ByteArray) (i bg : Nat) (done : List ByteArray) : Prop where
  le : bg ≤ i
  pos : 1 ≤ bg
  clean : ∀ j, bg ≤ j → j < i → bt p j ≠ 47
  sofar : (segs ((lb p).drop 1)).map ba = done ++ (segs ((lb p).drop bg)).map ba
  names : ∀ s ∈ done, nameB s = true
theorem ext_list (s : ByteArray) (a b : Nat) : lb (s.extract a b) = ((lb s).drop a).take (b - a) := by simp [lb, ByteArray.data_extract]
theorem bt_at {s : ByteArray} {j : Nat} (h : j < s.size) : bt s j = ((lb s)[j]'h).toNat := by
  unfold bt; rw [dif_pos h]; rfl
theorem clean_list {p : ByteArray} {i bg : Nat} (hi : i ≤ p.size) (h : ∀ j, bg ≤ j → j < i → bt p j ≠ 47) : ∀ c ∈ ((lb p).drop bg).take (i - bg), c ≠ 47 := fun c hc e => by
  subst e
  obtain ⟨j, hj, e2⟩ := List.mem_iff_getElem.1 hc
  rw [List.length_take, List.length_drop] at hj
  have hl : (lb p).length = p.size := rfl
  rw [List.getElem_take, List.getElem_drop] at e2
  have := h (bg + j) (by omega) (by omega)
  rw [bt_at (by omega)] at this
  simp only [e2] at this
  exact this (by decide)
theorem PaRel.start {p : ByteArray} : PaRel p 1 1 [] := ⟨Nat.le_refl _, Nat.le_refl _, fun j h1 h2 => by omega, rfl, by simp⟩
theorem PaRel.step {p : ByteArray} {i bg : Nat} {done : List ByteArray} (h : PaRel p i bg done) (hc : bt p i ≠ 47) : PaRel p (i + 1) bg done :=
  ⟨by have := h.le; omega, h.pos, fun j h1 h2 => by
    by_cases e : j = i
    · subst e; exact hc
    · exact h.clean j h1 (by omega), h.sofar, h.names⟩
theorem PaRel.split {p : ByteArray} {i bg : Nat} {done : List ByteArray} (h : PaRel p i bg done) (hi : i < p.size) (hc : bt p i = 47) : (segs ((lb p).drop 1)).map ba = (done ++ [p.extract bg i]) ++ (segs ((lb p).drop (i + 1))).map ba := by
  have hl : (lb p).length = p.size := rfl
  have e : (lb p).drop bg = ((lb p).drop bg).take (i - bg) ++ 47 :: (lb p).drop (i + 1) := by
    have h1 : ((lb p).drop bg).drop (i - bg) = 47 :: (lb p).drop (i + 1) := by
      rw [List.drop_drop, show bg + (i - bg) = i from by have := h.le; omega, List.drop_eq_getElem_cons (by omega)]
      congr 1
      have := bt_at hi
      rw [hc] at this
      have h2 : ((lb p)[i]'(by omega)).toNat = 47 := by omega
      exact UInt8.toNat_inj.1 h2
    rw [← h1, List.take_append_drop]
  rw [h.sofar, e, segs_cut _ _ (clean_list (by omega) h.clean), List.map_cons, List.append_assoc]
  congr 1
  rw [← ext_list, ba_lb]; rfl
theorem PaRel.fin {p : ByteArray} {i bg : Nat} {done : List ByteArray} (h : PaRel p i bg done) (hi : i = p.size) : (segs ((lb p).drop 1)).map ba = done ++ [p.extract bg i] := by
  have hl : (lb p).length = p.size := rfl
  have e : (lb p).drop bg = ((lb p).drop bg).take (i - bg) := by rw [List.take_of_length_le (by rw [List.length_drop]; omega)]
  rw [h.sofar, e, segs_none _ (clean_list (by omega) h.clean), List.map_cons, List.map_nil, ← ext_list, ba_lb]
theorem PaRel.next {p : ByteArray} {i bg : Nat} {done : List ByteArray} (h : PaRel p i bg done) (hi : i < p.size) (hc : bt p i = 47) (hn : nameB (p.extract bg i) = true) : PaRel p (i + 1) (i + 1) (done ++ [p.extract bg i]) :=
  ⟨Nat.le_refl _, by omega, fun j h1 h2 => by omega, h.split hi hc, fun s hs => by
    rcases List.mem_append.1 hs with q | q
    · exact h.names s q
    · simp at q; subst q; exact hn⟩
theorem splitB_rest {p : ByteArray} (h1 : 1 < p.size) (h0 : bt p 0 = 47) : splitB p = if (∀ s ∈ (segs ((lb p).drop 1)).map ba, nameB s = true) ∧ ((segs ((lb p).drop 1)).map ba).length ≤ 4 then ((segs ((lb p).drop 1)).map ba, true) else ([], false) := by
  have hl : (lb p).length = p.size := rfl
  unfold splitB
  have e : lb p = 47 :: (lb p).drop 1 := by
    have := List.drop_eq_getElem_cons (l := lb p) (i := 0) (by omega)
    rw [List.drop_zero] at this
    rw [this]
    congr 1
    have h2 := bt_at (s := p) (j := 0) (by omega)
    rw [h0] at h2
    have h3 : ((lb p)[0]'(by omega)).toNat = 47 := by omega
    exact UInt8.toNat_inj.1 h3
  have hne : (lb p).drop 1 ≠ [] := fun e => by have := congrArg List.length e; rw [List.length_drop] at this; simp at this; omega
  generalize (lb p).drop 1 = r at *
  rw [e]
  unfold splitP
  simp only
  rw [if_pos trivial, if_neg hne, List.length_map]
  have hall : ((segs r).all nameL = true) ↔ ∀ s ∈ (segs r).map ba, nameB s = true := by
    rw [List.all_eq_true]
    constructor
    · intro h s hs
      obtain ⟨l, hl, rfl⟩ := List.mem_map.1 hs
      unfold nameB; rw [lb_ba]; exact h l hl
    · intro h l hl
      have := h (ba l) (List.mem_map.2 ⟨l, hl, rfl⟩)
      unfold nameB at this; rw [lb_ba] at this; exact this
  by_cases hq : (segs r).all nameL = true ∧ (segs r).length ≤ 4
  · rw [if_pos hq, if_pos ⟨hall.1 hq.1, hq.2⟩]
  · rw [if_neg hq, if_neg (fun k => hq ⟨hall.2 k.1, k.2⟩)]; rfl
end Go.Proofs.Ytendbipfmgnjkaa
