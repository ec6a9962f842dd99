/- Texts of ours, laid one behind the other: UnP, HpA, HpB, HpC, HpD, BRowM, FieldM, FieldN. -/
import Derived.Test.YtoaifodmjkhiiaaDoorPl5
import Derived.Handy
import Derived.Test.YtoaifodmjkhiiaaDoorShelf
import Derived.Laws.MakeOwn
import Derived.Deep.AppendLies
import Derived.Laws.StructEq
import Derived.Deep.RegionHeld3
import Derived.Deep.DrawnRows
/- UnP: Units that go up by their keys, plain: what is put lies in its place; what is put is got, until it is spoilt or gone; all others stay. -/
namespace Go.Proofs.YtoaifodmjkhiiaaDoor
set_option maxRecDepth 100000
open Go.RowKit

theorem sum_turned (t : ByteArray) (i : Nat) (h : i < t.size) : sumN (turnAt t i) ≠ sumN t := by
  intro e
  have hl : t.data.toList.length = t.size := Array.length_toList
  have e1 : W.sumOf (turnAt t i) = W.sumOf t := by
    unfold sumN at e
    exact BitVec.eq_of_toNat_eq (by omega)
  have hi : i < t.data.toList.length := by omega
  have e2 : t.data.toList = t.data.toList.take i ++ t.data.toList[i] :: t.data.toList.drop (i + 1) := by
    rw [← List.drop_eq_getElem_cons hi, List.take_append_drop]
  have e3 : (turnAt t i).data.toList = t.data.toList.take i ++ (t.data.toList[i] ^^^ 1) :: t.data.toList.drop (i + 1) := by
    unfold turnAt
    have : t.data.toList.getD i 0 = t.data.toList[i] := by simp only [List.getD, List.getElem?_eq_getElem hi, Option.getD_some]
    rw [this]
    show (t.data.toList.set i _).toArray.toList = _
    rw [List.set_eq_take_append_cons_drop, if_pos hi]
  unfold W.sumOf at e1
  rw [e3] at e1
  conv at e1 => rhs; rw [e2]
  have k := W.crc_turned _ _ _ _ _ e1
  generalize t.data.toList[i] = b at k
  have all : ∀ y : Fin 256, (UInt8.ofNat y.val ^^^ 1) ≠ UInt8.ofNat y.val := by decide +kernel
  have := all ⟨b.toNat, b.toNat_lt⟩
  simp at this
  exact this k
/-- One key. -/
def unSame (a b : UnM) : Bool := a.group == b.group && a.index == b.index
def keyIs (g i : Int) (u : UnM) : Bool := u.group == g && u.index == i
theorem lt_iff (a b : UnM) : unLt a b = true ↔ (a.group < b.group ∨ (a.group = b.group ∧ a.index < b.index)) := by
  unfold unLt
  simp
theorem lt_not (a b : UnM) : unLt a b = false ↔ ¬ (a.group < b.group ∨ (a.group = b.group ∧ a.index < b.index)) := by
  rw [← lt_iff]
  simp
theorem lt_trans9 {a b c : UnM} (h : unLt a b = true) (k : unLt b c = true) : unLt a c = true := by
  rw [lt_iff] at *
  omega
theorem lt_asymm9 {a b : UnM} (h : unLt a b = true) : unLt b a = false := by
  rw [lt_iff] at h
  rw [lt_not]
  omega
theorem same_iff (a b : UnM) : unSame a b = true ↔ a.group = b.group ∧ a.index = b.index := by
  unfold unSame
  simp
theorem lt_tri {a b : UnM} (h : unLt a b = false) (k : unSame a b = false) : unLt b a = true := by
  rw [lt_not] at h
  rw [lt_iff]
  have : ¬ (a.group = b.group ∧ a.index = b.index) := by rw [← same_iff]; simp [k]
  omega
theorem same_lt {a b c : UnM} (h : unSame a b = true) (k : unLt a c = true) : unLt b c = true := by
  rw [same_iff] at h
  rw [lt_iff] at *
  omega
theorem same_irr {a b : UnM} (h : unSame a b = true) : unLt b a = false := by
  rw [same_iff] at h
  rw [lt_not]
  omega
/-- Units go up. -/
def UpU (L : List UnM) : Prop := L.Pairwise fun a b => unLt a b = true
theorem unAt_get {L : List UnM} {k : Nat} (hk : k < L.length) : unAt L k = (unOne L[k] && (decide (k = 0) || unLt (L.getD (k - 1) default) L[k])) := by
  unfold unAt
  have : L.getD k default = L[k] := by simp [List.getD, hk]
  rw [this]
theorem up_of_ok {L : List UnM} (h : unitsOk L = true) : UpU L := by
  have hk : ∀ k (hk : k + 1 < L.length), unLt L[k] L[k + 1] = true := fun k hk => by
    have := List.all_eq_true.1 h (k + 1) (by simpa using hk)
    rw [unAt_get hk] at this
    simp only [Bool.and_eq_true, Bool.or_eq_true, decide_eq_true_eq, Nat.add_one_ne_zero, false_or, Nat.add_sub_cancel] at this
    have e : L.getD k default = L[k] := by simp [List.getD, show k < L.length by omega]
    rw [e] at this
    exact this.2
  refine List.pairwise_iff_getElem.2 fun i j hi hj hij => ?_
  induction j with
  | zero => omega
  | succ j ih =>
    rcases Nat.lt_or_eq_of_le (Nat.le_of_lt_succ hij) with e | e
    · exact lt_trans9 (ih (by omega) e) (hk j hj)
    · subst e
      exact hk i hj
theorem one_of_ok {L : List UnM} (h : unitsOk L = true) : ∀ u ∈ L, unOne u = true := fun u hu => by
  obtain ⟨k, hk, rfl⟩ := List.getElem_of_mem hu
  have := List.all_eq_true.1 h k (by simpa using hk)
  rw [unAt_get hk] at this
  simp only [Bool.and_eq_true] at this
  exact this.1
theorem ok_of_up {L : List UnM} (h : UpU L) (h1 : ∀ u ∈ L, unOne u = true) : unitsOk L = true := by
  refine List.all_eq_true.2 fun k hk => ?_
  have hk : k < L.length := by simpa using hk
  rw [unAt_get hk, h1 _ (List.getElem_mem hk)]
  by_cases h0 : k = 0
  · simp [h0]
  · have e : L.getD (k - 1) default = L[k - 1] := by simp [List.getD, show k - 1 < L.length by omega]
    rw [e, List.pairwise_iff_getElem.1 h (k - 1) k (by omega) hk (by omega)]
    simp
/-- What is put lies between what is ahead of it and what is behind it. -/
theorem putL_cut {L : List UnM} {u : UnM} {i : Nat} (h1 : ∀ j (hj : j < L.length), j < i → unLt L[j] u = true) (h2 : ∀ j (hj : j < L.length), i ≤ j → unLt L[j] u = false) (hs : UpU L) :
    putL L u = L.take i ++ [u] ++ L.drop (if ∃ h : i < L.length, unSame L[i] u = true then i + 1 else i) := by
  have a1 : ∀ x ∈ L.take i, unLt x u = true := fun x hx => by
    obtain ⟨j, hj, rfl⟩ := List.getElem_of_mem hx
    rw [List.length_take] at hj
    rw [List.getElem_take]
    exact h1 j (by omega) (by omega)
  have a2 : ∀ x ∈ L.drop i, unLt x u = false := fun x hx => by
    obtain ⟨j, hj, rfl⟩ := List.getElem_of_mem hx
    rw [List.length_drop] at hj
    rw [List.getElem_drop]
    exact h2 (i + j) (by omega) (by omega)
  have e1 : L.filter (unLt · u) = L.take i := by
    conv => lhs; rw [← List.take_append_drop i L]
    rw [List.filter_append, List.filter_eq_self.2 a1, List.filter_eq_nil_iff.2 (fun x hx => by rw [a2 x hx]; simp), List.append_nil]
  have e2 : L.filter (unLt u ·) = (L.drop i).filter (unLt u ·) := by
    conv => lhs; rw [← List.take_append_drop i L]
    rw [List.filter_append, List.filter_eq_nil_iff.2 (fun x hx => by rw [lt_asymm9 (a1 x hx)]; simp), List.nil_append]
  unfold putL
  rw [e1, e2]
  congr 1
  by_cases hi : i < L.length
  · have hd : L.drop i = L[i] :: L.drop (i + 1) := List.drop_eq_getElem_cons hi
    have hr : ∀ x ∈ L.drop (i + 1), unLt L[i] x = true := fun x hx => by
      have hs' : UpU (L.drop i) := List.Pairwise.sublist (List.drop_sublist _ _) hs
      unfold UpU at hs'
      rw [hd] at hs'
      exact (List.pairwise_cons.1 hs').1 x hx
    cases hq : unSame L[i] u with
    | true =>
      rw [if_pos ⟨hi, hq⟩, hd, List.filter_cons, same_irr hq]
      simp only [Bool.false_eq_true, if_false]
      exact List.filter_eq_self.2 fun x hx => same_lt hq (hr x hx)
    | false =>
      rw [if_neg (fun ⟨_, h⟩ => by rw [hq] at h; cases h)]
      have hlt : unLt u L[i] = true := lt_tri (h2 i hi (Nat.le_refl _)) hq
      refine List.filter_eq_self.2 fun x hx => ?_
      rw [hd] at hx
      rcases List.mem_cons.1 hx with rfl | hx
      · exact hlt
      · exact lt_trans9 hlt (hr x hx)
  · rw [if_neg (fun ⟨h, _⟩ => hi h), List.drop_of_length_le (by omega)]
    rfl
/-- What is got, by the first one of a key. -/
theorem getX_find (h : HM) (g i : Int) : getX h g i = match h.us.find? (keyIs g i) with
    | some u => if h.up && unSound u then (u.text, true) else (⟨#[]⟩, false)
    | none => (⟨#[]⟩, false) := by
  have hk : ∀ L : List UnM, L.find? (keyIs g i) = if unIdx L g i < L.length then some (L.getD (unIdx L g i) default) else none := by
    intro L
    induction L with
    | nil => rfl
    | cons a L ih =>
      unfold unIdx at *
      rw [List.find?_cons, List.findIdx_cons]
      show (match keyIs g i a with | true => some a | false => L.find? (keyIs g i)) = if (bif keyIs g i a then 0 else L.findIdx (keyIs g i) + 1) < (a :: L).length then some ((a :: L).getD (bif keyIs g i a then 0 else L.findIdx (keyIs g i) + 1) default) else none
      cases keyIs g i a with
      | true => simp
      | false =>
        have e : L.findIdx (fun u => u.group == g && u.index == i) = L.findIdx (keyIs g i) := rfl
        rw [e] at ih
        dsimp only
        rw [ih]
        simp
  rw [hk]
  unfold getX
  by_cases hl : unIdx h.us g i < h.us.length
  · rw [if_pos hl]
    simp [hl]
  · rw [if_neg hl]
    simp [hl]
theorem putX_parts {L : List UnM} {u : UnM} (hs : UpU L) : ∃ A M Z, L = A ++ M ++ Z ∧ putL L u = A ++ [u] ++ Z ∧ (∀ x ∈ A, unLt x u = true) ∧ (∀ x ∈ Z, unLt u x = true) ∧ (∀ x ∈ M, unSame x u = true) := by
  refine ⟨L.filter (unLt · u), L.filter (unSame · u), L.filter (unLt u ·), ?_, rfl, fun x hx => (List.mem_filter.1 hx).2, fun x hx => (List.mem_filter.1 hx).2, fun x hx => (List.mem_filter.1 hx).2⟩
  induction L with
  | nil => rfl
  | cons a L ih =>
    have h1 := List.pairwise_cons.1 hs
    have ih := ih h1.2
    rw [List.filter_cons, List.filter_cons, List.filter_cons]
    cases ha : unLt a u with
    | true =>
      have hb : unLt u a = false := lt_asymm9 ha
      have hc : unSame a u = false := by cases hc : unSame a u with
        | false => rfl
        | true =>
          have h2 := (same_iff _ _).1 hc
          have h3 := (lt_iff _ _).1 ha
          omega
      rw [hb, hc]
      simp only [if_true, Bool.false_eq_true, if_false, List.cons_append, List.cons.injEq, true_and]
      exact ih
    | false =>
      have n1 : L.filter (unLt · u) = [] := by
        refine List.filter_eq_nil_iff.2 fun x hx => ?_
        have := h1.1 x hx
        have h4 := (lt_iff _ _).1 this
        have h5 := (lt_not _ _).1 ha
        have : ¬ unLt x u = true := by rw [lt_iff]; omega
        exact this
      rw [n1] at ih ⊢
      cases hb : unSame a u with
      | true =>
        rw [same_irr hb]
        simp only [if_true, Bool.false_eq_true, if_false, List.cons_append, List.nil_append, List.cons.injEq, true_and] at *
        exact ih
      | false =>
        have hc : unLt u a = true := lt_tri ha hb
        have n2 : L.filter (unSame · u) = [] := by
          refine List.filter_eq_nil_iff.2 fun x hx => ?_
          have h4 := (lt_iff _ _).1 (h1.1 x hx)
          have h5 := (lt_iff _ _).1 hc
          have : ¬ unSame x u = true := by rw [same_iff]; omega
          exact this
        rw [n2] at ih ⊢
        rw [hc]
        simp only [if_true, Bool.false_eq_true, if_false, List.nil_append, List.cons.injEq, true_and] at *
        exact ih
theorem key_same {u x : UnM} : keyIs u.group u.index x = unSame x u := rfl
theorem lt_nokey {u x : UnM} (h : unLt x u = true ∨ unLt u x = true) : unSame x u = false := by
  cases hc : unSame x u with
  | false => rfl
  | true =>
    have h2 := (same_iff _ _).1 hc
    rw [lt_iff, lt_iff] at h
    omega
theorem find_mid {A Z : List UnM} {u v : UnM} (hA : ∀ x ∈ A, unSame x u = false) (hv : unSame v u = true) : (A ++ [v] ++ Z).find? (keyIs u.group u.index) = some v := by
  rw [List.append_assoc, List.find?_append, List.find?_eq_none.2 (fun x hx => by rw [key_same, hA x hx]; simp)]
  simp [key_same, hv]
theorem idx_mid {A Z : List UnM} {u v : UnM} (hA : ∀ x ∈ A, unSame x u = false) (hv : unSame v u = true) : unIdx (A ++ [v] ++ Z) u.group u.index = A.length := by
  unfold unIdx
  rw [List.findIdx_eq (by simp)]
  refine ⟨?_, fun j hj => ?_⟩
  · simp only [List.append_assoc, List.cons_append, List.nil_append, List.getElem_append_right (Nat.le_refl _), Nat.sub_self, List.getElem_cons_zero]
    exact hv
  · have : (A ++ [v] ++ Z)[j]'(by simp; omega) = A[j] := by
      simp [List.getElem_append_left, hj]
    rw [this]
    exact hA _ (List.getElem_mem hj)
theorem get_mid {A Z : List UnM} {v : UnM} : (A ++ [v] ++ Z).getD A.length default = v := by simp [List.getD]
theorem set_midU {A Z : List UnM} {v x : UnM} : (A ++ [v] ++ Z).set A.length x = A ++ [x] ++ Z := by simp
theorem cut_mid {A Z : List UnM} {v : UnM} : (A ++ [v] ++ Z).take A.length ++ (A ++ [v] ++ Z).drop (A.length + 1) = A ++ Z := by
  have : A ++ [v] ++ Z = A ++ (v :: Z) := by simp
  rw [this, List.take_left, ← List.drop_drop, List.drop_left]
  rfl
theorem lt_mid {A Z : List UnM} {v : UnM} : A.length < (A ++ [v] ++ Z).length := by simp
theorem size_list (t : ByteArray) (h : 0 < t.size) : (t.toList == []) = false := by
  rw [Go.ByteArray.toList_eq]
  cases hq : t.data.toList with
  | cons a l => rfl
  | nil =>
    have : t.data.toList.length = t.size := rfl
    rw [hq] at this
    simp at this
    omega
/-- Nothing that FnUnits asks of plain hosts is otherwise. -/
structure UnitsAll (H : HM) (u : UnM) (p : Int) (N B D : HM) : Prop where
  put : putX H u = (N, true)
  up : N.up = true
  okN : hostOk N = true
  got : getX N u.group u.index = (u.text, true)
  spoil : spoilX N u.group u.index p = (B, true)
  okB : hostOk B = true
  bad : (getX B u.group u.index).2 = false
  again : spoilX B u.group u.index p = (B, false)
  drop : dropU N u.group u.index = (D, true)
  okD : hostOk D = true
  none : (getX D u.group u.index).2 = false
  others : ∀ x ∈ H.us, unSame x u = false → getX H x.group x.index = getX D x.group x.index
  down : (getX ⟨N.id, false, N.us⟩ u.group u.index).2 = false
  len : D.us.length + 1 = N.us.length
  low : N.us.length ≤ H.us.length + 1
theorem up_mid {A Z : List UnM} {v : UnM} (hs : UpU (A ++ Z)) (h1 : ∀ x ∈ A, unLt x v = true) (h2 : ∀ x ∈ Z, unLt v x = true) : UpU (A ++ [v] ++ Z) := by
  unfold UpU at *
  rw [List.pairwise_append] at hs
  rw [List.append_assoc, List.pairwise_append]
  refine ⟨hs.1, ?_, fun x hx y hy => ?_⟩
  · rw [List.cons_append, List.nil_append, List.pairwise_cons]
    exact ⟨h2, hs.2.1⟩
  · rcases List.mem_append.1 hy with h | h
    · simp at h; subst h; exact h1 x hx
    · exact hs.2.2 x hx y h
theorem units_all (H : HM) (u : UnM) (p : Int) (hup : H.up = true) (hok : hostOk H = true) (hg : 1 ≤ u.group ∧ u.group ≤ 100000) (hi : 0 ≤ u.index ∧ u.index ≤ 5) (ht : u.text.size ≤ 200) (ht0 : 0 < u.text.size) (hp : 0 ≤ p) : ∃ N B D, UnitsAll H u p N B D := by
  have hu : unitsOk H.us = true ∧ inI H.id 1 7 = true := by unfold hostOk at hok; simpa using hok
  have hs := up_of_ok hu.1
  have hone := one_of_ok hu.1
  have so : summed u = ⟨u.group, u.index, u.text, sumN u.text⟩ := rfl
  obtain ⟨A, M, Z, hL, hput, hA, hZ, hM⟩ := putX_parts (u := summed u) hs
  have hAs : ∀ x ∈ A, unSame x u = false := fun x hx => lt_nokey (u := summed u) (.inl (hA x hx))
  have hZs : ∀ x ∈ Z, unSame x u = false := fun x hx => lt_nokey (u := summed u) (.inr (hZ x hx))
  have same : ∀ t s, unSame ⟨u.group, u.index, t, s⟩ u = true := fun t s => by unfold unSame; simp
  have hlow := sumN_low u.text
  have hAZ : UpU (A ++ Z) := by
    have : (A ++ Z).Sublist H.us := by
      rw [hL, List.append_assoc]
      exact List.Sublist.append (List.Sublist.refl _) (List.sublist_append_right _ _)
    exact List.Pairwise.sublist this hs
  have h1A : ∀ x ∈ A ++ Z, unOne x = true := fun x hx => hone x (by
    rw [hL]
    rcases List.mem_append.1 hx with h | h
    · exact List.mem_append_left _ (List.mem_append_left _ h)
    · exact List.mem_append_right _ h)
  have ok3 : ∀ t : ByteArray, t.size ≤ 200 → hostOk ⟨H.id, H.up, A ++ [⟨u.group, u.index, t, sumN u.text⟩] ++ Z⟩ = true := fun t ht => by
    unfold hostOk
    dsimp only
    rw [hu.2, Bool.and_true]
    refine ok_of_up (up_mid hAZ (fun x hx => ?_) (fun x hx => ?_)) fun x hx => ?_
    · have := (lt_iff _ _).1 (hA x hx); rw [lt_iff]; exact this
    · have := (lt_iff _ _).1 (hZ x hx); rw [lt_iff]; exact this
    · rcases List.mem_append.1 hx with h | h
      · rcases List.mem_append.1 h with h | h
        · exact h1A x (List.mem_append_left _ h)
        · simp at h
          subst h
          unfold unOne inI
          simp [hg, hi, hlow, ht]
      · exact h1A x (List.mem_append_right _ h)
  have idx : ∀ t s, unIdx (A ++ [⟨u.group, u.index, t, s⟩] ++ Z) u.group u.index = A.length := fun t s => idx_mid hAs (same t s)
  have hsize : ∀ k, (turnAt u.text k).size = u.text.size := fun k => by
    unfold turnAt
    show (u.text.data.toList.set k _).toArray.size = u.text.data.size
    simp
  have hnone : (A ++ Z).find? (keyIs u.group u.index) = none := List.find?_eq_none.2 fun x hx => by
    rw [key_same]
    rcases List.mem_append.1 hx with h | h
    · rw [hAs x h]; simp
    · rw [hZs x h]; simp
  have hturn := sum_turned u.text (p.toNat % u.text.size) (Nat.mod_lt _ ht0)
  refine ⟨⟨H.id, H.up, A ++ [⟨u.group, u.index, u.text, sumN u.text⟩] ++ Z⟩, ⟨H.id, H.up, A ++ [⟨u.group, u.index, turnAt u.text (p.toNat % u.text.size), sumN u.text⟩] ++ Z⟩, ⟨H.id, H.up, A ++ Z⟩, ?_⟩
  constructor
  · unfold putX
    rw [hput, so, hok, hup, ← hup, ok3 _ ht, hup]
    rfl
  · exact hup
  · exact ok3 _ ht
  · rw [getX_find, find_mid hAs (same _ _)]
    unfold unSound
    simp [hup]
  · unfold spoilX
    dsimp only
    rw [idx, get_mid, set_midU]
    dsimp only
    rw [size_list _ ht0]
    unfold unSound
    simp [hp]
  · exact ok3 _ (by rw [hsize]; exact ht)
  · rw [getX_find, find_mid hAs (same _ _)]
    unfold unSound
    have : (sumN u.text == sumN (turnAt u.text (p.toNat % u.text.size))) = false := by
      cases hq : sumN u.text == sumN (turnAt u.text (p.toNat % u.text.size)) with
      | false => rfl
      | true => exact absurd (by simpa using hq : sumN u.text = _).symm hturn
    dsimp only
    rw [this]
    simp
  · unfold spoilX
    dsimp only
    rw [idx, get_mid]
    unfold unSound
    have : (sumN u.text == sumN (turnAt u.text (p.toNat % u.text.size))) = false := by
      cases hq : sumN u.text == sumN (turnAt u.text (p.toNat % u.text.size)) with
      | false => rfl
      | true => exact absurd (by simpa using hq : sumN u.text = _).symm hturn
    dsimp only
    rw [this]
    simp
  · unfold dropU
    dsimp only
    rw [idx, if_pos lt_mid, cut_mid]
  · unfold hostOk
    dsimp only
    rw [ok_of_up hAZ h1A, hu.2]
    rfl
  · rw [getX_find]
    dsimp only
    rw [hnone]
  · intro x hx hxu
    rw [getX_find, getX_find]
    have e : H.us.find? (keyIs x.group x.index) = (A ++ Z).find? (keyIs x.group x.index) := by
      rw [hL, List.find?_append, List.find?_append, List.find?_append, (show M.find? (keyIs x.group x.index) = none from List.find?_eq_none.2 fun y hy => ?_), Option.or_none]
      have h1 := (same_iff _ _).1 (hM y hy)
      have h2 : ¬ unSame x u = true := by rw [hxu]; simp
      rw [same_iff] at h2
      intro h3
      have h4 : unSame y x = true := h3
      rw [same_iff] at h4
      rw [so] at h1
      dsimp only at h1
      omega
    rw [e]
  · rw [getX_find]
    dsimp only
    split <;> simp
  · simp
    omega
  · show (A ++ [_] ++ Z).length ≤ _
    rw [hL]
    simp
    omega
end Go.Proofs.YtoaifodmjkhiiaaDoor
/- HpA: The program's own: one unit held against another; units and hosts that are right (written by gen/mkhpa.py). -/
namespace Go.Proofs.YtoaifodmjkhiiaaDoor
set_option maxRecDepth 100000
open Go.RowKit BigFrame
attribute [local go_sem ↓] Go.wp_at_zero Go.wp_at_succ

def cmpI (x y : Int) : Int := if x < y then -1 else if y < x then 1 else 0
def cmpU (a b : UnM) : Int := if cmpI a.group b.group = 0 then cmpI a.index b.index else cmpI a.group b.group
theorem cmpI_is (x y : Int) : (x < y ∧ cmpI x y = -1) ∨ (y < x ∧ cmpI x y = 1) ∨ (x = y ∧ cmpI x y = 0) := by
  unfold cmpI
  split
  · exact .inl ⟨by assumption, rfl⟩
  · split
    · exact .inr (.inl ⟨by assumption, rfl⟩)
    · exact .inr (.inr ⟨by omega, rfl⟩)
theorem cmpU_neg (a b : UnM) : cmpU a b < 0 ↔ unLt a b = true := by
  rw [lt_iff]
  unfold cmpU
  have h1 := cmpI_is a.group b.group
  have h2 := cmpI_is a.index b.index
  split <;> omega
theorem cmpU_zero (a b : UnM) : cmpU a b = 0 ↔ unSame a b = true := by
  rw [same_iff]
  unfold cmpU
  have h1 := cmpI_is a.group b.group
  have h2 := cmpI_is a.index b.index
  split <;> omega
end Go.Proofs.YtoaifodmjkhiiaaDoor
/- HpB: The program's own copyHost (written by gen/mkhpb.py). -/
namespace Go.Proofs.YtoaifodmjkhiiaaDoor
set_option maxRecDepth 100000
open Go.RowKit BigFrame
attribute [local go_sem ↓] Go.wp_at_zero Go.wp_at_succ

set_option maxRecDepth 100000 in
theorem implClone (s : ByteArray) (w : World) (hs : s.size ≤ 281474976710656) : Calls Tryd.prog 56 #[.string s] w fun e w' => e = .returned (.string s) ∧ Below w.heap.size w w' := by
  have HC := Shut.mk (fun W => Tryd.stringslite_Clone s W hs)
  go_enter Tryd.func56, Tryd.ntmps56
  go_wp2_with fail
  refine (HC.out _).mono ?_
  rintro e w1 ⟨rfl, hb⟩
  go_wp2_with fail
  go_ret
  exact ⟨rfl, hb⟩
end Go.Proofs.YtoaifodmjkhiiaaDoor
/- HpC: The program's own: a unit's key, keys and units that are compared, the place of a unit. -/
namespace Go.Proofs.YtoaifodmjkhiiaaDoor
set_option maxRecDepth 100000
open Go.RowKit BigFrame
attribute [local go_sem ↓] Go.wp_at_zero Go.wp_at_succ

theorem eqgKey (x y : Operand) (a b c d : Int) (W : World) : Sem.run Tryd.prog (eqGuard BinOp.eql 89 x y (.agg #[.int .i64 a, .int .i64 b]) (.agg #[.int .i64 c, .int .i64 d])) W = .ok () W := by kernel_rfl
theorem eqKey (a b c d : Int) (W : World) : Sem.run Tryd.prog (binOp BinOp.eql 89 (.agg #[.int .i64 a, .int .i64 b]) (.agg #[.int .i64 c, .int .i64 d])) W = .ok (.bool (a == c && b == d)) W := by
  rw [run_eql_struct, run_equalIn_agg W 9999 89 _ _ (by kernel_rfl) (by kernel_rfl)]
  simp [Op.eqFields, go_sem]
  by_cases h1 : a = c <;> by_cases h2 : b = d <;> simp [h1, h2]
set_option maxRecDepth 100000 in
theorem implKey (u : UnM) (w : World) : Calls Tryd.prog 70 #[unv u] w fun e w' => e = .returned (.agg #[.int .i64 u.group, .int .i64 u.index]) ∧ Below w.heap.size w w' := by
  have HS0 := Shut.mk (((SL.start w).new #[.int .i64 u.group, .int .i64 u.index, .string u.text, .int .i64 u.sum] 65).new #[.int .i64 0, .int .i64 0] 89)
  simp only [World.size_alloc] at HS0
  go_enter Tryd.func70, Tryd.ntmps70
  go_upto_region 1 with fail
  refine wp_shade (fun W => SL w W [bxS (w.heap.size + 1) [.int .i64 0, .int .i64 0], bxS w.heap.size [.int .i64 u.group, .int .i64 u.index, .string u.text, .int .i64 u.sum]]) HS0.out ?_
  intro W hW
  have H := Shut.mk hW
  clear HS0 hW
  have x0 := (H.out.bx 1 rfl 0 _ rfl).1
  have x1 := (H.out.bx 1 rfl 1 _ rfl).1
  obtain ⟨r0, r0z⟩ := H.out.bx 0 rfl 0 _ rfl
  obtain ⟨r1, r1z⟩ := H.out.bx 0 rfl 1 _ rfl
  go_wp2_with fail
  have HE := Shut.mk ((H.out.put 0 rfl 0 (.int .i64 u.group) (by simp)).put 0 rfl 1 (.int .i64 u.index) (by simp))
  exact bodyPost_ret (v := .agg #[.int .i64 u.group, .int .i64 u.index]) (by simp [results, Tryd.results70, go_sem, r0, r1]) rfl ⟨rfl, HE.out.bel⟩
set_option maxRecDepth 100000 in
set_option maxHeartbeats 1000000 in
theorem testKey (u : UnM) (kb : Nat) (g i : Int) (w : World) (h0 : w.cell? ⟨kb, 0, none⟩ = some (.int .i64 g)) (h1 : w.cell? ⟨kb, 1, none⟩ = some (.int .i64 i)) (hl : kb < w.heap.size) :
    Calls Tryd.prog 69 #[unv u, .pointer (some ⟨kb, 0, none⟩)] w fun e w' => e = .returned (.bool (keyIs g i u)) ∧ Below w.heap.size w w' := by
  have HS0 := Shut.mk ((SL.start w).new #[.int .i64 u.group, .int .i64 u.index, .string u.text, .int .i64 u.sum] 65)
  have HQ : Shut (keyIs g i u = (u.group == g && u.index == i)) := ⟨rfl⟩
  have hek := eqKey u.group u.index g i
  have heg := fun x y => eqgKey x y u.group u.index g i
  have HBW := Shut.mk ((Below.refl w.heap.size w).alloc (Nat.le_refl _) (.cells #[.int .i64 u.group, .int .i64 u.index, .string u.text, .int .i64 u.sum] 65))
  generalize keyIs g i u = R at HQ ⊢
  rw [← HQ.out] at hek
  go_enter Tryd.func69, Tryd.ntmps69
  go_upto_region 1 with fail
  refine wp_shade (fun W => SL w W [bxS w.heap.size [.int .i64 u.group, .int .i64 u.index, .string u.text, .int .i64 u.sum]]) HS0.out ?_
  intro W hW
  have H := Shut.mk hW
  clear HS0 hW
  have lq : w.heap.size < W.heap.size := (H.out.at 0 rfl).1
  have lk : kb < W.heap.size := Nat.lt_of_lt_of_le hl H.out.bel.size
  have g0 : ∀ X : Grow W, X.val.cell? ⟨w.heap.size, 0, none⟩ = some (.int .i64 u.group) := fun X => X.cell (H.out.bx 0 rfl 0 _ rfl).1 lq
  have g1 : ∀ X : Grow W, X.val.cell? ⟨w.heap.size, 1, none⟩ = some (.int .i64 u.index) := fun X => X.cell (H.out.bx 0 rfl 1 _ rfl).1 lq
  have g2 : ∀ X : Grow W, X.val.cell? ⟨w.heap.size, 2, none⟩ = some (.string u.text) := fun X => X.cell (H.out.bx 0 rfl 2 _ rfl).1 lq
  have g3 : ∀ X : Grow W, X.val.cell? ⟨w.heap.size, 3, none⟩ = some (.int .i64 u.sum) := fun X => X.cell (H.out.bx 0 rfl 3 _ rfl).1 lq
  have p0 : ∀ X : Grow W, X.val.cell? ⟨kb, 0, none⟩ = some (.int .i64 g) := fun X => X.cell ((H.out.bel.cell (p := ⟨kb, 0, none⟩) hl).trans h0) lk
  have p1 : ∀ X : Grow W, X.val.cell? ⟨kb, 1, none⟩ = some (.int .i64 i) := fun X => X.cell ((H.out.bel.cell (p := ⟨kb, 1, none⟩) hl).trans h1) lk
  have HK := Shut.mk (fun X => calls_grow (w := W) (fun W' (_ : Below W.heap.size W W') => implKey u W') X)
  have HGR : Shut (∀ X : Grow W, Below w.heap.size w X.val) := ⟨fun X => (H.out.below X.bel).bel⟩
  clear h0 h1
  refine wp_region_grow (by kernel_rfl) (by kernel_rfl) ?_
  repeat (go_big_quiet_step (first | (go_at_call 70; with_reducible exact HK.out _)))
  refine wpQuiet_nil ?_
  rintro _ ⟨X, rfl⟩
  go_wp2_with fail
  go_ret
  exact ⟨rfl, HGR.out X⟩
set_option maxRecDepth 100000 in
set_option maxHeartbeats 1000000 in
theorem indexKey (us : List UnM) (a : Option Addr) (n cap kb : Nat) (g i : Int) (w : World) (hr : UnRow w a us) (hn : n = us.length) (hl : n ≤ 9000000) (h0 : w.cell? ⟨kb, 0, none⟩ = some (.int .i64 g)) (h1 : w.cell? ⟨kb, 1, none⟩ = some (.int .i64 i)) (hk : kb < w.heap.size) :
    Calls Tryd.prog 68 #[.slice a n cap, .func (.func 69) #[] #[.pointer (some ⟨kb, 0, none⟩)]] w fun e w' => e = .returned (.int .i64 (atN us g i)) ∧ Below w.heap.size w w' := by
  obtain ⟨R, hR⟩ : ∃ R, R = atN us g i := ⟨_, rfl⟩
  rw [← hR]
  have HR := Shut.mk hR
  have HT := Shut.mk hr
  have HN := Shut.mk hn
  have HCC : Shut (∀ (W : World) (u : UnM), Below w.heap.size w W → Calls Tryd.prog 69 #[unv u, .pointer (some ⟨kb, 0, none⟩)] W fun e w' => e = .returned (.bool (keyIs g i u)) ∧ Below W.heap.size W w') := ⟨fun W u hb => testKey u kb g i W ((hb.cell (p := ⟨kb, 0, none⟩) hk).trans h0) ((hb.cell (p := ⟨kb, 1, none⟩) hk).trans h1) (Nat.lt_of_lt_of_le hk hb.size)⟩
  clear hR hr hn h0 h1
  go_enter Tryd.func68, Tryd.ntmps68
  go_wp2_with fail
  go_loopw [8] (fun iv wr => ∃ k : Nat, iv = .int .i64 k ∧ k ≤ n ∧ Shut (∀ j (hj : j < us.length), j < k → (us[j].group == g && us[j].index == i) = false) ∧ Shut (Below w.heap.size w wr)) (fun iv _ => n - (intOf iv).toNat)
  case atStart => exact ⟨0, rfl, Nat.zero_le _, ⟨fun _ _ h => absurd h (Nat.not_lt_zero _)⟩, ⟨Below.refl _ _⟩⟩
  case round =>
    obtain ⟨k, rfl, hk, HG, HW⟩ := hrel
    by_cases hlt : k < n
    case pos =>
      have hku : k < us.length := by have := HN.out; omega
      have k0 : (0 : Int) ≤ (k : Int) := by omega
      have k1 : (k : Int) < (n : Int) := by omega
      obtain ⟨b, off, rfl, lb, hc⟩ := UnRow.at (HT.out.stays HW.out) (by omega)
      obtain ⟨c0, c1, c2, c3⟩ := hc k hku
      have HF : Shut ((us[k].group == g && us[k].index == i) = true → R = (k : Int)) := ⟨fun h => HR.out.trans (atN_found hku h HG.out)⟩
      have HNX : Shut ((us[k].group == g && us[k].index == i) = false → ∀ j (hj : j < us.length), j < k + 1 → (us[j].group == g && us[j].index == i) = false) := ⟨fun h j hj hjk => by
        rcases Nat.lt_succ_iff_lt_or_eq.1 hjk with e | e
        · exact HG.out j hj e
        · subst e; exact h⟩
      have HCK := Shut.mk (HCC.out wr us[k] HW.out)
      unfold keyIs at HCK
      obtain ⟨u, hu⟩ : ∃ u, u = us[k] := ⟨_, rfl⟩
      rw [← hu] at c0 c1 c2 c3 HF HNX HCK
      obtain ⟨q, hq⟩ : ∃ q, q = (u.group == g && u.index == i) := ⟨_, rfl⟩
      rw [← hq] at HF HNX HCK
      clear hc hu hq
      cases q with
      | true =>
        have HE := Shut.mk (HF.out rfl)
        go_wp2_with (go_at_call 69; refine HCK.out.mono ?_; rintro e w1 ⟨rfl, hb1⟩; have HB1 := Shut.mk (HW.out.trans (hb1.mono HW.out.size)); clear hb1)
        go_ret
        exact ⟨by rw [HE.out]; rfl, HB1.out⟩
      | false =>
        have HE := Shut.mk (HNX.out rfl)
        go_wp2_with (go_at_call 69; refine HCK.out.mono ?_; rintro e w1 ⟨rfl, hb1⟩; have HB1 := Shut.mk (HW.out.trans (hb1.mono HW.out.size)); clear hb1)
        go_roundw
        case rel => exact ⟨k + 1, by go_num, by omega, HE, HB1⟩
        case measure => simp [intOf]; omega
    case neg =>
      have k1 : ¬ (k : Int) < (n : Int) := by omega
      have HE : Shut (R = -1) := ⟨HR.out.trans (atN_none fun j hj => HG.out j hj (by have := HN.out; omega))⟩
      go_wp2_with fail
      go_ret
      exact ⟨by rw [HE.out]; rfl, HW.out⟩
set_option maxRecDepth 100000 in
set_option maxHeartbeats 1000000 in
theorem implAt (H : HM) (a : Option Addr) (cap : Nat) (g i : Int) (w : World) (hr : UnRow w a H.us) (hl : H.us.length ≤ 9000000) :
    Calls Tryd.prog 54 #[hov H a cap, .agg #[.int .i64 g, .int .i64 i]] w fun e w' => e = .returned (.int .i64 (atN H.us g i)) ∧ Below w.heap.size w w' := by
  have HS0 := Shut.mk (((SL.start w).new #[.int .i64 H.id, .bool H.up, .slice a H.us.length cap] 46).new #[.int .i64 g, .int .i64 i] 89)
  simp only [World.size_alloc] at HS0
  have HR := Shut.mk hr
  clear hr
  obtain ⟨id, up, us⟩ := H
  dsimp only [hov] at *
  have HIX : Shut (∀ W, SL w W [bxS (w.heap.size + 1) [.int .i64 g, .int .i64 i], bxS w.heap.size [.int .i64 id, .bool up, .slice a us.length cap]] → Calls Tryd.prog 68 #[.slice a us.length cap, .func (.func 69) #[] #[.pointer (some ⟨w.heap.size + 1, 0, none⟩)]] W fun e w' => e = .returned (.int .i64 (atN us g i)) ∧ Below W.heap.size W w') := ⟨fun W h => indexKey us a us.length cap (w.heap.size + 1) g i W (HR.out.stays h.bel) rfl hl (h.bx 0 rfl 0 _ rfl).1 (h.bx 0 rfl 1 _ rfl).1 (h.at 0 rfl).1⟩
  generalize atN us g i = R at HIX ⊢
  generalize us.length = n at HS0 HIX ⊢
  go_enter Tryd.func54, Tryd.ntmps54
  go_upto_region 1 with fail
  refine wp_shade (fun W => SL w W [bxS (w.heap.size + 1) [.int .i64 g, .int .i64 i], bxS w.heap.size [.int .i64 id, .bool up, .slice a n cap]]) HS0.out ?_
  intro W hW
  have H := Shut.mk hW
  clear HS0 hW
  have x2 := (H.out.bx 1 rfl 2 _ rfl).1
  go_wp2_with (go_at_call 68; refine (HIX.out _ H.out).mono ?_; rintro e w1 ⟨rfl, hb1⟩; have HB1 := Shut.mk (H.out.below hb1).bel; clear hb1)
  go_ret
  exact ⟨rfl, HB1.out⟩
end Go.Proofs.YtoaifodmjkhiiaaDoor
/- HpD: The library's slices.Delete of one unit in a row of one's own; the program's own DropUnit (written by gen/mkhpd.py). -/
namespace Go.Proofs.YtoaifodmjkhiiaaDoor
set_option maxRecDepth 100000
open Go.RowKit BigFrame
attribute [local go_sem ↓] Go.wp_at_zero Go.wp_at_succ

abbrev zeroU : Array Value := #[.int .i64 0, .int .i64 0, .string ⟨#[]⟩, .int .i64 0]
theorem zeroU_one (m : Nat) : ∀ v ∈ (Builtin.zeroCells zeroU m).toList, v.oneCell' = true := by
  intro v hv
  unfold Builtin.zeroCells at hv
  simp only [Array.toList_map, List.mem_map] at hv
  obtain ⟨i, -, rfl⟩ := hv
  have : i % 4 < 4 := Nat.mod_lt _ (by decide)
  generalize i % 4 = q at this
  show (zeroU[q]!).oneCell' = true
  match q, this with
  | 0, _ => rfl
  | 1, _ => rfl
  | 2, _ => rfl
  | 3, _ => rfl
theorem zeroU_len (m : Nat) : (Builtin.zeroCells zeroU m).toList.length = m * 4 := by
  unfold Builtin.zeroCells
  simp
theorem clear_unit (g o c : Nat) (W : World) (hc : ∀ j, j < 4 → (W.cell? ⟨g, o + j, none⟩).isSome = true ∧ W.frozen? ⟨g, o + j, none⟩ = false) : Sem.run Tryd.prog (Builtin.clear_ #[44] 0 #[.slice (some ⟨g, o, none⟩) 1 c]) W = .ok (.tuple #[]) (W.setCells g o (Builtin.zeroCells zeroU 1).toList) := by
  have hz : ∀ w, Sem.run Tryd.prog (zeroValue 65) w = .ok (.agg zeroU) w := fun w => by kernel_rfl
  have hs := run_storeCells_cells (P := Tryd.prog) g o (Builtin.zeroCells zeroU 1).toList 0 W (fun j hj => by rw [Nat.add_zero]; exact (hc j (by rw [zeroU_len] at hj; omega)).1) (fun j hj => by rw [Nat.add_zero]; exact (hc j (by rw [zeroU_len] at hj; omega)).2) (zeroU_one 1)
  unfold Builtin.clear_
  simp [go_sem, hz, Value.cells, hs]
theorem frw_some {w : World} {a : Option Addr} {us : List UnM} {lo hi : Nat} (h : FRw w a (unS us) lo hi) (hp : 0 < us.length) : ∃ gc, a = some ⟨gc, 0, none⟩ := by
  rcases h with ⟨_, e⟩ | ⟨q, e, _⟩
  · have := congrArg List.length e
    rw [unS_len] at this
    simp at this
    omega
  · exact ⟨q, e⟩
end Go.Proofs.YtoaifodmjkhiiaaDoor
/- BRowM: Rows of bytes that may be written: of a call's own, and made of a text. -/
namespace Go.Proofs.YtoaifodmjkhiiaaDoor
set_option maxRecDepth 100000
open Go.RowKit

/-- A row of bytes that may be written. -/
def BRow (w : World) (g : Nat) (l : List UInt8) : Prop :=
  g < w.heap.size ∧ ∀ j, j < l.length → w.cell? ⟨g, j, none⟩ = some (.int .u8 ((l.getD j 0).toNat : Int)) ∧ w.frozen? ⟨g, j, none⟩ = false
theorem BRow.set {w : World} {g : Nat} {l : List UInt8} (h : BRow w g l) (i : Nat) (x : UInt8) (hi : i < l.length) : BRow (w.setCell ⟨g, i, none⟩ (.int .u8 (x.toNat : Int))) g (l.set i x) := by
  refine ⟨by have := h.1; simpa [World.setCell] using this, fun j hj => ?_⟩
  rw [List.length_set] at hj
  refine ⟨?_, (World.frozen?_setCell _ _ _ _).trans (h.2 j hj).2⟩
  by_cases e : j = i
  · subst e
    rw [World.cell?_setCell_same _ _ _ (h.2 j hj).1]
    simp [List.getD, hi]
  · rw [World.cell?_setCell_other _ _ _ _ (by first | (simp; done) | (simp; omega)), (h.2 j hj).1]
    simp [List.getD, Ne.symm e]
theorem own_brow {w : World} {B g n cap : Nat} {l : List UInt8} (h : w.ownsRow B 5 1 (.slice (some ⟨g, 0, none⟩) n cap) n (bv l)) : BRow w g l := by
  have hc := h.cells (g := g) rfl
  have hlt := h.lt g rfl
  obtain ⟨_, ⟨h0, _⟩ | ⟨g', cap', cur, he, hB, hcur, _, _, _, _⟩⟩ := h
  · cases h0
  · have eg : g' = g := by simp at he; exact he.1.symm
    subst eg
    refine ⟨hlt.2, fun j hj => ⟨?_, ?_⟩⟩
    · have := hc j _ (show (bv l)[j]? = some _ by simp [bv, hj]; rfl)
      have e : (⟨g', 0, none⟩ : Addr).add j = ⟨g', j, none⟩ := by cases j <;> simp [Addr.add]
      rw [e] at this
      simpa [List.getD, hj] using this
    · unfold World.frozen?
      rw [hcur]; simp
theorem brow_string {w : World} {g cap : Nat} {l : List UInt8} (h : BRow w g l) :
    (convert 38 9 (.slice (some ⟨g, 0, none⟩) l.length cap)).run Tryd.prog w = .ok (.string ⟨l.toArray⟩) w :=
  run_convert_bytes_back w 38 9 5 ⟨g, 0, none⟩ cap l Tryd.underlying38 Tryd.underlying5 Tryd.underlying9 (fun j hj => by
    have e : (⟨g, 0, none⟩ : Addr).add j = ⟨g, j, none⟩ := by cases j <;> simp [Addr.add]
    rw [e, (h.2 j hj).1]
    simp [List.getD, hj])
/-- The bytes of a text, in a block of their own. -/
theorem bytes_made (w : World) (s : ByteArray) : ∃ (w' : World) (c : Nat), (convert 9 38 (.string s)).run Tryd.prog w = .ok (.slice (some ⟨w.heap.size, 0, none⟩) s.size c) w' ∧ BRow w' w.heap.size s.data.toList ∧ Below w.heap.size w w' := by
  refine ⟨_, _, run_bytes_of_string w 9 38 5 s Tryd.underlying9 Tryd.underlying38 Tryd.underlying5, ⟨?_, fun j hj => ⟨?_, ?_⟩⟩, ?_⟩
  · show w.heap.size < (w.heap.push _).size
    simp
  · rw [show w.heap.size = w.drew.heap.size from rfl, World.cell?_alloc_mark]
    have hj' : j < s.data.size := by simpa using hj
    unfold bytesRow
    rw [Array.getElem?_append_left (by simpa using hj')]
    simp only [Array.getElem?_map, List.getD, Array.getElem?_toList]
    rw [Array.getElem?_eq_getElem hj']
    rfl
  · rw [show w.heap.size = w.drew.heap.size from rfl, World.frozen?_alloc_mark]
    have hj' : j < s.data.size := by simpa using hj
    have h2 : j < (bytesRow s (grownCap w s.size 0 5)).size := by unfold bytesRow; rw [Array.size_append, Array.size_map]; omega
    rw [decide_eq_false (show ¬ (bytesRow s (grownCap w s.size 0 5)).size ≤ j by omega)]
    rfl
  · exact (Below.drew (Below.refl _ _)).alloc (Nat.le_refl _) _
end Go.Proofs.YtoaifodmjkhiiaaDoor
/- FieldM: Plain facts on the field of bytes: products of polynomials over bits, modulo the one of the number 285; nothing of the program is read here. -/
namespace Go.Proofs.YtoaifodmjkhiiaaDoor.W
abbrev B8 := BitVec 8

/-- Twice a number. -/
def xt (a : B8) : B8 := if a.msb then (a <<< 1) ^^^ 29#8 else a <<< 1
def gb (b : B8) (i : Nat) (x : B8) : B8 := if b.getLsbD i then x else 0#8
def gm (a b : B8) : B8 :=
  gb b 0 a ^^^ (gb b 1 (xt a) ^^^ (gb b 2 (xt (xt a)) ^^^ (gb b 3 (xt (xt (xt a))) ^^^ (gb b 4 (xt (xt (xt (xt a)))) ^^^ (gb b 5 (xt (xt (xt (xt (xt a))))) ^^^ (gb b 6 (xt (xt (xt (xt (xt (xt a)))))) ^^^ gb b 7 (xt (xt (xt (xt (xt (xt (xt a)))))))))))))
theorem xor_swap (a b c d : B8) : (a ^^^ b) ^^^ (c ^^^ d) = (a ^^^ c) ^^^ (b ^^^ d) := by
  rw [BitVec.xor_assoc, BitVec.xor_assoc, ← BitVec.xor_assoc b c d, BitVec.xor_comm b c, BitVec.xor_assoc c b d]
theorem xor_two (a b : B8) {A B C : B8} (h : A ^^^ B = C) : (a ^^^ A) ^^^ (b ^^^ B) = (a ^^^ b) ^^^ C := by rw [xor_swap, h]
theorem xt_add (a b : B8) : xt (a ^^^ b) = xt a ^^^ xt b := by
  unfold xt
  rw [BitVec.msb_xor, BitVec.shiftLeft_xor_distrib]
  cases a.msb <;> cases b.msb <;> simp
  · rw [BitVec.xor_assoc]
  · rw [BitVec.xor_assoc, BitVec.xor_assoc, BitVec.xor_comm (b <<< 1)]
  · rw [xor_swap, BitVec.xor_self, BitVec.xor_zero]
theorem gb_add (b : B8) (i : Nat) (x y : B8) : gb b i (x ^^^ y) = gb b i x ^^^ gb b i y := by
  unfold gb; cases b.getLsbD i <;> simp
theorem gb_bits (b c : B8) (i : Nat) (x : B8) : gb (b ^^^ c) i x = gb b i x ^^^ gb c i x := by
  unfold gb
  rw [BitVec.getLsbD_xor]
  cases b.getLsbD i <;> cases c.getLsbD i <;> simp
theorem gm_left (a b c : B8) : gm (a ^^^ b) c = gm a c ^^^ gm b c := by
  unfold gm
  simp only [xt_add, gb_add]
  exact (xor_two _ _ (xor_two _ _ (xor_two _ _ (xor_two _ _ (xor_two _ _ (xor_two _ _ (xor_two _ _ rfl))))))).symm
theorem gm_right (a b c : B8) : gm a (b ^^^ c) = gm a b ^^^ gm a c := by
  unfold gm
  simp only [gb_bits]
  exact (xor_two _ _ (xor_two _ _ (xor_two _ _ (xor_two _ _ (xor_two _ _ (xor_two _ _ (xor_two _ _ rfl))))))).symm
theorem xt_zero : xt 0#8 = 0#8 := by decide
theorem gb_zero (b : B8) (i : Nat) : gb b i 0#8 = 0#8 := by unfold gb; simp
theorem gm_zero (a : B8) : gm a 0#8 = 0#8 := by unfold gm gb; simp
theorem zero_gm (a : B8) : gm 0#8 a = 0#8 := by unfold gm; simp only [xt_zero, gb_zero]; simp
/-- One round of the product: the lowest bit, and the rest of them with twice the number. -/
theorem gm_step (a b : B8) : gm a b = gb b 0 a ^^^ gm (xt a) (b >>> 1) := by
  have e : ∀ (i : Nat) (x : B8), gb (b >>> 1) i x = gb b (i + 1) x := fun i x => by unfold gb; rw [BitVec.getLsbD_ushiftRight, Nat.add_comm]
  have h8 : ∀ x : B8, gb b 8 x = 0#8 := fun x => by unfold gb; rw [BitVec.getLsbD_of_ge b 8 (by decide)]; rfl
  unfold gm
  simp only [e]
  rw [show 7 + 1 = 8 from rfl, h8]
  simp
/-- The bits of a number. -/
theorem bits_of : ∀ x : B8, x = gb x 0 1#8 ^^^ (gb x 1 2#8 ^^^ (gb x 2 4#8 ^^^ (gb x 3 8#8 ^^^ (gb x 4 16#8 ^^^ (gb x 5 32#8 ^^^ (gb x 6 64#8 ^^^ gb x 7 128#8)))))) := by decide +kernel
def adds (f : B8 → B8) : Prop := ∀ x y, f (x ^^^ y) = f x ^^^ f y
theorem adds.zero {f : B8 → B8} (h : adds f) : f 0#8 = 0#8 := by
  have := h 0#8 0#8
  rw [BitVec.xor_self, BitVec.xor_self] at this
  exact this
theorem adds.bit {f : B8 → B8} (h : adds f) (x : B8) (i : Nat) (y : B8) : f (gb x i y) = gb x i (f y) := by
  unfold gb; cases x.getLsbD i
  · simp [h.zero]
  · simp
/-- What goes through sums is told by its answers at the eight bits. -/
theorem adds.ext {f g : B8 → B8} (hf : adds f) (hg : adds g) (h : ∀ e ∈ [1#8, 2#8, 4#8, 8#8, 16#8, 32#8, 64#8, 128#8], f e = g e) (x : B8) : f x = g x := by
  have key : ∀ {f : B8 → B8}, adds f → f x = gb x 0 (f 1#8) ^^^ (gb x 1 (f 2#8) ^^^ (gb x 2 (f 4#8) ^^^ (gb x 3 (f 8#8) ^^^ (gb x 4 (f 16#8) ^^^ (gb x 5 (f 32#8) ^^^ (gb x 6 (f 64#8) ^^^ gb x 7 (f 128#8))))))) := fun {f} hf => by
    conv => lhs; rw [bits_of x]
    rw [hf, hf, hf, hf, hf, hf, hf]
    simp only [hf.bit]
  rw [key hf, key hg]
  rw [h 1#8 (by simp), h 2#8 (by simp), h 4#8 (by simp), h 8#8 (by simp), h 16#8 (by simp), h 32#8 (by simp), h 64#8 (by simp), h 128#8 (by simp)]
def eightB : List B8 := [1#8, 2#8, 4#8, 8#8, 16#8, 32#8, 64#8, 128#8]
theorem gm_comm_bits : ∀ x ∈ eightB, ∀ y ∈ eightB, gm x y = gm y x := by decide +kernel
theorem gm_comm (a b : B8) : gm a b = gm b a := by
  refine adds.ext (f := fun x => gm x b) (g := fun x => gm b x) (fun x y => gm_left x y b) (fun x y => gm_right b x y) (fun e he => ?_) a
  exact adds.ext (f := fun y => gm e y) (g := fun y => gm y e) (fun x y => gm_right e x y) (fun x y => gm_left x y e) (fun d hd => gm_comm_bits e he d hd) b
theorem gm_assoc_bits : ∀ x ∈ eightB, ∀ y ∈ eightB, ∀ z ∈ eightB, gm (gm x y) z = gm x (gm y z) := by decide +kernel
theorem gm_assoc (a b c : B8) : gm (gm a b) c = gm a (gm b c) := by
  refine adds.ext (f := fun x => gm (gm x b) c) (g := fun x => gm x (gm b c)) (fun x y => by simp only [gm_left]) (fun x y => gm_left x y _) (fun e he => ?_) a
  refine adds.ext (f := fun y => gm (gm e y) c) (g := fun y => gm e (gm y c)) (fun x y => by simp only [gm_right, gm_left]) (fun x y => by simp only [gm_left, gm_right]) (fun d hd => ?_) b
  exact adds.ext (f := fun z => gm (gm e d) z) (g := fun z => gm e (gm d z)) (fun x y => gm_right _ x y) (fun x y => by simp only [gm_right]) (fun g hg => gm_assoc_bits e he d hd g hg) c
theorem gm_one (a : B8) : gm a 1#8 = a := by
  unfold gm gb; simp
theorem one_gm (a : B8) : gm 1#8 a = a := by rw [gm_comm, gm_one]
/-- Powers. -/
def gp (a : B8) : Nat → B8
  | 0 => 1#8
  | n + 1 => gm (gp a n) a
theorem gp_0 (a : B8) : gp a 0 = 1#8 := rfl
theorem gp_succ (a : B8) (n : Nat) : gp a (n + 1) = gm (gp a n) a := rfl
theorem gp_add (a : B8) (n : Nat) : ∀ m, gm (gp a n) (gp a m) = gp a (n + m)
  | 0 => gm_one _
  | m + 1 => by rw [gp, ← gm_assoc, gp_add a n m]; rfl
theorem gp_two (a : B8) (n : Nat) : gp a (n + n) = gm (gp a n) (gp a n) := (gp_add a n n).symm
theorem gp_one (a : B8) : gp a 1 = a := one_gm a
/-- The product of the powers by 1, 2, 4 .. 128. -/
def round (a : B8) : B8 :=
  let b := gm a a; let c := gm b b; let d := gm c c; let e := gm d d; let f := gm e e; let g := gm f f; let h := gm g g
  gm a (gm b (gm c (gm d (gm e (gm f (gm g h))))))
theorem gp_round (a : B8) : gp a 255 = round a := by
  have h2 : gp a 2 = gm a a := by rw [show 2 = 1 + 1 from rfl, gp_two, gp_one]
  have h4 : gp a 4 = gm (gp a 2) (gp a 2) := gp_two a 2
  have h8 : gp a 8 = gm (gp a 4) (gp a 4) := gp_two a 4
  have h16 : gp a 16 = gm (gp a 8) (gp a 8) := gp_two a 8
  have h32 : gp a 32 = gm (gp a 16) (gp a 16) := gp_two a 16
  have h64 : gp a 64 = gm (gp a 32) (gp a 32) := gp_two a 32
  have h128 : gp a 128 = gm (gp a 64) (gp a 64) := gp_two a 64
  have s7 : gm (gp a 64) (gp a 128) = gp a 192 := gp_add a 64 128
  have s6 : gm (gp a 32) (gp a 192) = gp a 224 := gp_add a 32 192
  have s5 : gm (gp a 16) (gp a 224) = gp a 240 := gp_add a 16 224
  have s4 : gm (gp a 8) (gp a 240) = gp a 248 := gp_add a 8 240
  have s3 : gm (gp a 4) (gp a 248) = gp a 252 := gp_add a 4 248
  have s2 : gm (gp a 2) (gp a 252) = gp a 254 := gp_add a 2 252
  have s1 : gm (gp a 1) (gp a 254) = gp a 255 := gp_add a 1 254
  rw [← s1, ← s2, ← s3, ← s4, ← s5, ← s6, ← s7, h128, h64, h32, h16, h8, h4, h2, gp_one]
  rfl
theorem round_all : ∀ a : B8, a ≠ 0#8 → round a = 1#8 := by decide +kernel
theorem gp_255 (a : B8) (h : a ≠ 0#8) : gp a 255 = 1#8 := by rw [gp_round, round_all a h]
/-- The number with which one is 1. -/
def gi (a : B8) : B8 := if a = 0#8 then 0#8 else gp a 254
theorem gi_zero : gi 0#8 = 0#8 := if_pos rfl
theorem gm_gi (a : B8) (h : a ≠ 0#8) : gm a (gi a) = 1#8 := by
  unfold gi
  rw [if_neg h, gm_comm, ← gp_255 a h]
  rfl
theorem gi_only {a b : B8} (h : gm a b = 1#8) : b = gi a := by
  have h0 : a ≠ 0#8 := by
    intro e; subst e
    rw [zero_gm] at h
    exact absurd h (by decide)
  rw [← gm_one b, ← gm_gi a h0, ← gm_assoc, gm_comm b a, h, one_gm]
end Go.Proofs.YtoaifodmjkhiiaaDoor.W
/- FieldN: Facts that lead from numbers of the program to the field of bytes, and texts that are summed up or taken so many times. -/
namespace Go.Proofs.YtoaifodmjkhiiaaDoor
set_option maxRecDepth 100000
open Go.RowKit
open W (B8)

theorem i64_xor (m n : Nat) (hm : m < 512) (hn : n < 512) : bits .xor .i64 (m : Int) (n : Int) = ((m ^^^ n : Nat) : Int) := by
  have h1 : ∀ k : Nat, k < 512 → (BitVec.ofInt 64 (k : Int)).toNat = k := fun k hk => by rw [BitVec.toNat_ofInt]; omega
  have h2 : m ^^^ n < 2 ^ 9 := Nat.xor_lt_two_pow (by omega) (by omega)
  show IntKind.i64.wrap ((BitVec.ofInt 64 (m : Int) ^^^ BitVec.ofInt 64 (n : Int)).toNat : Nat) = _
  rw [BitVec.toNat_xor, h1 m hm, h1 n hn, IntKind.wrap_i64]
  omega
theorem b8_lt (A : B8) : A.toNat < 256 := A.isLt
theorem i64_xor8 (A B : B8) : bits .xor .i64 (A.toNat : Int) (B.toNat : Int) = ((A ^^^ B).toNat : Int) := by
  rw [i64_xor _ _ (by have := b8_lt A; omega) (by have := b8_lt B; omega), BitVec.toNat_xor]
/-- A number, taken modulo 256. -/
def g8 (x : Int) : B8 := BitVec.ofInt 8 x
theorem g8_nat (x : Int) : ((g8 x).toNat : Int) = x % 256 := by
  unfold g8
  rw [BitVec.toNat_ofInt]
  omega
theorem g8_back (A : B8) : g8 (A.toNat : Int) = A := by
  apply BitVec.eq_of_toNat_eq
  have := g8_nat (A.toNat : Int)
  have := b8_lt A
  omega
theorem g8_mod (x : Int) : g8 (x % 256) = g8 x := by
  apply BitVec.eq_of_toNat_eq
  have := g8_nat (x % 256)
  have := g8_nat x
  omega
namespace W
theorem xt_big : ∀ A : B8, 256 ≤ 2 * A.toNat → (2 * A.toNat) ^^^ 285 = (xt A).toNat := by decide +kernel
theorem xt_small : ∀ A : B8, 2 * A.toNat < 256 → 2 * A.toNat = (xt A).toNat := by decide +kernel
theorem half8 (B : B8) : B.toNat / 2 = (B >>> 1).toNat := by
  rw [BitVec.toNat_ushiftRight, Nat.shiftRight_eq_div_pow]
theorem odd8 (B : B8) : B.getLsbD 0 = decide (B.toNat % 2 = 1) := by rw [BitVec.getLsbD, Nat.testBit_zero]
theorem b8_zero {B : B8} (h : B.toNat = 0) : B = 0#8 := BitVec.eq_of_toNat_eq h

/-- The sum of two texts. -/
def addL : List UInt8 → List UInt8 → List UInt8
  | [], b => b
  | a, [] => a
  | x :: a, y :: b => (x ^^^ y) :: addL a b
theorem addL_nil (a : List UInt8) : addL a [] = a := by cases a <;> rfl
theorem addL_comm : ∀ (a b : List UInt8), addL a b = addL b a
  | [], b => by rw [addL_nil]; cases b <;> rfl
  | x :: a, [] => rfl
  | x :: a, y :: b => by rw [addL, addL, UInt8.xor_comm, addL_comm a b]
theorem addL_len : ∀ (a b : List UInt8), (addL a b).length = max a.length b.length
  | [], b => by simp [addL]
  | x :: a, [] => by simp [addL]
  | x :: a, y :: b => by
    rw [addL, List.length_cons, addL_len a b]
    simp only [List.length_cons]
    omega
theorem addL_twice : ∀ (a b : List UInt8), ∃ r, addL (addL a b) b = a ++ r
  | [], b => ⟨addL b b, by simp [addL]⟩
  | x :: a, [] => ⟨[], by simp [addL]⟩
  | x :: a, y :: b => by
    obtain ⟨r, hr⟩ := addL_twice a b
    refine ⟨r, ?_⟩
    rw [addL, addL, hr, UInt8.xor_assoc, UInt8.xor_self, UInt8.xor_zero]
    rfl
/-- A text so many times. -/
def mulB (A : B8) (c : UInt8) : UInt8 := ⟨gm A c.toBitVec⟩
def mulL (A : B8) (l : List UInt8) : List UInt8 := l.map (mulB A)
theorem mulB_add (A : B8) (x y : UInt8) : mulB A (x ^^^ y) = mulB A x ^^^ mulB A y := by
  unfold mulB
  apply UInt8.eq_of_toBitVec_eq
  simp only [UInt8.toBitVec_xor, gm_right]
theorem mulL_add (A : B8) : ∀ (a b : List UInt8), mulL A (addL a b) = addL (mulL A a) (mulL A b)
  | [], b => rfl
  | x :: a, [] => rfl
  | x :: a, y :: b => by
    have := mulL_add A a b
    unfold mulL at *
    rw [addL, List.map_cons, List.map_cons, List.map_cons, addL, mulB_add, this]
theorem mulL_one (a : List UInt8) : mulL 1#8 a = a := by
  unfold mulL
  rw [show mulB 1#8 = id from funext fun c => by unfold mulB; rw [one_gm]; rfl]
  simp
theorem mulL_len (A : B8) (a : List UInt8) : (mulL A a).length = a.length := by simp [mulL]
/-- The first bytes done, the others as they were. -/
def addTo (a b : List UInt8) (k : Nat) : List UInt8 := addL (a.take k) (b.take k) ++ a.drop k
theorem addTo_all {a b : List UInt8} (h : b.length ≤ a.length) : addTo a b b.length = addL a b := by
  have key : ∀ (a b : List UInt8), b.length ≤ a.length → addL (a.take b.length) b ++ a.drop b.length = addL a b := by
    intro a b
    induction b generalizing a with
    | nil => intro _; simp [addL_nil]
    | cons y b ih =>
      intro h
      cases a with
      | nil => simp at h
      | cons x a =>
        simp only [List.length_cons, List.take_succ_cons, List.drop_succ_cons, addL, List.cons_append]
        rw [ih a (by simpa using h)]
  unfold addTo
  rw [List.take_of_length_le (Nat.le_refl _)]
  exact key a b h
theorem addTo_len {a b : List UInt8} {k : Nat} (h : b.length ≤ a.length) : (addTo a b k).length = a.length := by
  unfold addTo
  rw [List.length_append, addL_len, List.length_drop, List.length_take, List.length_take]
  omega
theorem addL_snoc : ∀ (a b : List UInt8) (x y : UInt8), a.length = b.length → addL (a ++ [x]) (b ++ [y]) = addL a b ++ [x ^^^ y]
  | [], [], x, y, _ => rfl
  | [], _ :: _, _, _, h => by simp at h
  | _ :: _, [], _, _, h => by simp at h
  | c :: a, d :: b, x, y, h => by
    have := addL_snoc a b x y (by simpa using h)
    simp only [List.cons_append, addL, this]
theorem at_mid (P : List UInt8) (x y : UInt8) (R : List UInt8) (k : Nat) (h : P.length = k) : (P ++ x :: R).getD k 0 = x ∧ (P ++ x :: R).set k y = P ++ y :: R := by
  subst h
  refine ⟨by simp [List.getD], ?_⟩
  rw [List.set_append_right _ _ (Nat.le_refl _)]
  simp
theorem getD_at {l : List UInt8} {k : Nat} (h : k < l.length) : l[k] = l.getD k 0 := by simp [List.getD, h]
theorem addTo_step {a b : List UInt8} {k : Nat} (h : b.length ≤ a.length) (hk : k < b.length) :
    (addTo a b k).getD k 0 = a.getD k 0 ∧ (addTo a b k).set k (a.getD k 0 ^^^ b.getD k 0) = addTo a b (k + 1) := by
  have ha : k < a.length := by omega
  have hl : (addL (a.take k) (b.take k)).length = k := by rw [addL_len, List.length_take, List.length_take]; omega
  have e1 : a.drop k = a.getD k 0 :: a.drop (k + 1) := by rw [List.drop_eq_getElem_cons ha, getD_at ha]
  have e2 : a.take (k + 1) = a.take k ++ [a.getD k 0] := by rw [List.take_succ_eq_append_getElem ha, getD_at ha]
  have e3 : b.take (k + 1) = b.take k ++ [b.getD k 0] := by rw [List.take_succ_eq_append_getElem hk, getD_at hk]
  have m := at_mid (addL (a.take k) (b.take k)) (a.getD k 0) (a.getD k 0 ^^^ b.getD k 0) (a.drop (k + 1)) k hl
  unfold addTo
  rw [e1, e2, e3, addL_snoc _ _ _ _ (by rw [List.length_take, List.length_take]; omega), List.append_assoc]
  exact ⟨m.1, m.2⟩
theorem addTo_zero (a b : List UInt8) : addTo a b 0 = a := by simp [addTo, addL]
def mulTo (A : B8) (l : List UInt8) (k : Nat) : List UInt8 := mulL A (l.take k) ++ l.drop k
theorem mulTo_zero (A : B8) (l : List UInt8) : mulTo A l 0 = l := by simp [mulTo, mulL]
theorem mulTo_all (A : B8) (l : List UInt8) {k : Nat} (h : l.length ≤ k) : mulTo A l k = mulL A l := by
  unfold mulTo
  rw [List.take_of_length_le h, List.drop_of_length_le h, List.append_nil]
theorem mulTo_len (A : B8) (l : List UInt8) (k : Nat) : (mulTo A l k).length = l.length := by
  unfold mulTo
  rw [List.length_append, mulL_len, List.length_take, List.length_drop]
  omega
theorem mulTo_step (A : B8) {l : List UInt8} {k : Nat} (h : k < l.length) : (mulTo A l k).getD k 0 = l.getD k 0 ∧ (mulTo A l k).set k (mulB A (l.getD k 0)) = mulTo A l (k + 1) := by
  have e1 : l.drop k = l.getD k 0 :: l.drop (k + 1) := by rw [List.drop_eq_getElem_cons h, getD_at h]
  have e2 : l.take (k + 1) = l.take k ++ [l.getD k 0] := by rw [List.take_succ_eq_append_getElem h, getD_at h]
  have m := at_mid (mulL A (l.take k)) (l.getD k 0) (mulB A (l.getD k 0)) (l.drop (k + 1)) k (by rw [mulL_len, List.length_take]; omega)
  unfold mulTo
  rw [e1, e2]
  refine ⟨m.1, ?_⟩
  rw [m.2]
  simp [mulL]
end W
end Go.Proofs.YtoaifodmjkhiiaaDoor
