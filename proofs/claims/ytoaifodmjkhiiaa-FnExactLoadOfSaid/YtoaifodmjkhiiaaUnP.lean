/- Units that go up by their keys, plain: what is put lies in its place; what is put is got, until it is spoilt or gone; all others stay. -/
import Derived.Test.YtoaifodmjkhiiaaSpH
namespace Go.Proofs.Ytoaifodmjkhiiaa
set_option maxRecDepth 100000
open Go.RowKit

theorem sum_turned (t : ByteArray) (i : Nat) (h : i < t.size) : sumN (turnAt t i) ≠ sumN t := by
  intro e
  have hl : t.data.toList.length = t.size := Array.length_toList
  have e1 : W.sumOf (turnAt t i) = W.sumOf t := by
    unfold sumN at e
    exact BitVec.eq_of_toNat_eq (by omega)
  have hi : i < t.data.toList.length := by omega
  have e2 : t.data.toList = t.data.toList.take i ++ t.data.toList[i] :: t.data.toList.drop (i + 1) := by
    rw [← List.drop_eq_getElem_cons hi, List.take_append_drop]
  have e3 : (turnAt t i).data.toList = t.data.toList.take i ++ (t.data.toList[i] ^^^ 1) :: t.data.toList.drop (i + 1) := by
    unfold turnAt
    have : t.data.toList.getD i 0 = t.data.toList[i] := by simp only [List.getD, List.getElem?_eq_getElem hi, Option.getD_some]
    rw [this]
    show (t.data.toList.set i _).toArray.toList = _
    rw [List.set_eq_take_append_cons_drop, if_pos hi]
  unfold W.sumOf at e1
  rw [e3] at e1
  conv at e1 => rhs; rw [e2]
  have k := W.crc_turned _ _ _ _ _ e1
  generalize t.data.toList[i] = b at k
  have all : ∀ y : Fin 256, (UInt8.ofNat y.val ^^^ 1) ≠ UInt8.ofNat y.val := by decide +kernel
  have := all ⟨b.toNat, b.toNat_lt⟩
  simp at this
  exact this k
/-- One key. -/
def unSame (a b : UnM) : Bool := a.group == b.group && a.index == b.index
def keyIs (g i : Int) (u : UnM) : Bool := u.group == g && u.index == i
theorem lt_iff (a b : UnM) : unLt a b = true ↔ (a.group < b.group ∨ (a.group = b.group ∧ a.index < b.index)) := by
  unfold unLt
  simp
theorem lt_not (a b : UnM) : unLt a b = false ↔ ¬ (a.group < b.group ∨ (a.group = b.group ∧ a.index < b.index)) := by
  rw [← lt_iff]
  simp
theorem lt_trans9 {a b c : UnM} (h : unLt a b = true) (k : unLt b c = true) : unLt a c = true := by
  rw [lt_iff] at *
  omega
theorem lt_asymm9 {a b : UnM} (h : unLt a b = true) : unLt b a = false := by
  rw [lt_iff] at h
  rw [lt_not]
  omega
theorem same_iff (a b : UnM) : unSame a b = true ↔ a.group = b.group ∧ a.index = b.index := by
  unfold unSame
  simp
theorem lt_tri {a b : UnM} (h : unLt a b = false) (k : unSame a b = false) : unLt b a = true := by
  rw [lt_not] at h
  rw [lt_iff]
  have : ¬ (a.group = b.group ∧ a.index = b.index) := by rw [← same_iff]; simp [k]
  omega
theorem same_lt {a b c : UnM} (h : unSame a b = true) (k : unLt a c = true) : unLt b c = true := by
  rw [same_iff] at h
  rw [lt_iff] at *
  omega
theorem same_irr {a b : UnM} (h : unSame a b = true) : unLt b a = false := by
  rw [same_iff] at h
  rw [lt_not]
  omega
/-- Units go up. -/
def UpU (L : List UnM) : Prop := L.Pairwise fun a b => unLt a b = true
theorem unAt_get {L : List UnM} {k : Nat} (hk : k < L.length) : unAt L k = (unOne L[k] && (decide (k = 0) || unLt (L.getD (k - 1) default) L[k])) := by
  unfold unAt
  have : L.getD k default = L[k] := by simp [List.getD, hk]
  rw [this]
theorem up_of_ok {L : List UnM} (h : unitsOk L = true) : UpU L := by
  have hk : ∀ k (hk : k + 1 < L.length), unLt L[k] L[k + 1] = true := fun k hk => by
    have := List.all_eq_true.1 h (k + 1) (by simpa using hk)
    rw [unAt_get hk] at this
    simp only [Bool.and_eq_true, Bool.or_eq_true, decide_eq_true_eq, Nat.add_one_ne_zero, false_or, Nat.add_sub_cancel] at this
    have e : L.getD k default = L[k] := by simp [List.getD, show k < L.length by omega]
    rw [e] at this
    exact this.2
  refine List.pairwise_iff_getElem.2 fun i j hi hj hij => ?_
  induction j with
  | zero => omega
  | succ j ih =>
    rcases Nat.lt_or_eq_of_le (Nat.le_of_lt_succ hij) with e | e
    · exact lt_trans9 (ih (by omega) e) (hk j hj)
    · subst e
      exact hk i hj
theorem one_of_ok {L : List UnM} (h : unitsOk L = true) : ∀ u ∈ L, unOne u = true := fun u hu => by
  obtain ⟨k, hk, rfl⟩ := List.getElem_of_mem hu
  have := List.all_eq_true.1 h k (by simpa using hk)
  rw [unAt_get hk] at this
  simp only [Bool.and_eq_true] at this
  exact this.1
theorem ok_of_up {L : List UnM} (h : UpU L) (h1 : ∀ u ∈ L, unOne u = true) : unitsOk L = true := by
  refine List.all_eq_true.2 fun k hk => ?_
  have hk : k < L.length := by simpa using hk
  rw [unAt_get hk, h1 _ (List.getElem_mem hk)]
  by_cases h0 : k = 0
  · simp [h0]
  · have e : L.getD (k - 1) default = L[k - 1] := by simp [List.getD, show k - 1 < L.length by omega]
    rw [e, List.pairwise_iff_getElem.1 h (k - 1) k (by omega) hk (by omega)]
    simp
/-- What is put lies between what is ahead of it and what is behind it. -/
theorem putL_cut {L : List UnM} {u : UnM} {i : Nat} (h1 : ∀ j (hj : j < L.length), j < i → unLt L[j] u = true) (h2 : ∀ j (hj : j < L.length), i ≤ j → unLt L[j] u = false) (hs : UpU L) :
    putL L u = L.take i ++ [u] ++ L.drop (if ∃ h : i < L.length, unSame L[i] u = true then i + 1 else i) := by
  have a1 : ∀ x ∈ L.take i, unLt x u = true := fun x hx => by
    obtain ⟨j, hj, rfl⟩ := List.getElem_of_mem hx
    rw [List.length_take] at hj
    rw [List.getElem_take]
    exact h1 j (by omega) (by omega)
  have a2 : ∀ x ∈ L.drop i, unLt x u = false := fun x hx => by
    obtain ⟨j, hj, rfl⟩ := List.getElem_of_mem hx
    rw [List.length_drop] at hj
    rw [List.getElem_drop]
    exact h2 (i + j) (by omega) (by omega)
  have e1 : L.filter (unLt · u) = L.take i := by
    conv => lhs; rw [← List.take_append_drop i L]
    rw [List.filter_append, List.filter_eq_self.2 a1, List.filter_eq_nil_iff.2 (fun x hx => by rw [a2 x hx]; simp), List.append_nil]
  have e2 : L.filter (unLt u ·) = (L.drop i).filter (unLt u ·) := by
    conv => lhs; rw [← List.take_append_drop i L]
    rw [List.filter_append, List.filter_eq_nil_iff.2 (fun x hx => by rw [lt_asymm9 (a1 x hx)]; simp), List.nil_append]
  unfold putL
  rw [e1, e2]
  congr 1
  by_cases hi : i < L.length
  · have hd : L.drop i = L[i] :: L.drop (i + 1) := List.drop_eq_getElem_cons hi
    have hr : ∀ x ∈ L.drop (i + 1), unLt L[i] x = true := fun x hx => by
      have hs' : UpU (L.drop i) := List.Pairwise.sublist (List.drop_sublist _ _) hs
      unfold UpU at hs'
      rw [hd] at hs'
      exact (List.pairwise_cons.1 hs').1 x hx
    cases hq : unSame L[i] u with
    | true =>
      rw [if_pos ⟨hi, hq⟩, hd, List.filter_cons, same_irr hq]
      simp only [Bool.false_eq_true, if_false]
      exact List.filter_eq_self.2 fun x hx => same_lt hq (hr x hx)
    | false =>
      rw [if_neg (fun ⟨_, h⟩ => by rw [hq] at h; cases h)]
      have hlt : unLt u L[i] = true := lt_tri (h2 i hi (Nat.le_refl _)) hq
      refine List.filter_eq_self.2 fun x hx => ?_
      rw [hd] at hx
      rcases List.mem_cons.1 hx with rfl | hx
      · exact hlt
      · exact lt_trans9 hlt (hr x hx)
  · rw [if_neg (fun ⟨h, _⟩ => hi h), List.drop_of_length_le (by omega)]
    rfl
/-- What is got, by the first one of a key. -/
theorem getX_find (h : HM) (g i : Int) : getX h g i = match h.us.find? (keyIs g i) with
    | some u => if h.up && unSound u then (u.text, true) else (⟨#[]⟩, false)
    | none => (⟨#[]⟩, false) := by
  have hk : ∀ L : List UnM, L.find? (keyIs g i) = if unIdx L g i < L.length then some (L.getD (unIdx L g i) default) else none := by
    intro L
    induction L with
    | nil => rfl
    | cons a L ih =>
      unfold unIdx at *
      rw [List.find?_cons, List.findIdx_cons]
      show (match keyIs g i a with | true => some a | false => L.find? (keyIs g i)) = if (bif keyIs g i a then 0 else L.findIdx (keyIs g i) + 1) < (a :: L).length then some ((a :: L).getD (bif keyIs g i a then 0 else L.findIdx (keyIs g i) + 1) default) else none
      cases keyIs g i a with
      | true => simp
      | false =>
        have e : L.findIdx (fun u => u.group == g && u.index == i) = L.findIdx (keyIs g i) := rfl
        rw [e] at ih
        dsimp only
        rw [ih]
        simp
  rw [hk]
  unfold getX
  by_cases hl : unIdx h.us g i < h.us.length
  · rw [if_pos hl]
    simp [hl]
  · rw [if_neg hl]
    simp [hl]
theorem putX_parts {L : List UnM} {u : UnM} (hs : UpU L) : ∃ A M Z, L = A ++ M ++ Z ∧ putL L u = A ++ [u] ++ Z ∧ (∀ x ∈ A, unLt x u = true) ∧ (∀ x ∈ Z, unLt u x = true) ∧ (∀ x ∈ M, unSame x u = true) := by
  refine ⟨L.filter (unLt · u), L.filter (unSame · u), L.filter (unLt u ·), ?_, rfl, fun x hx => (List.mem_filter.1 hx).2, fun x hx => (List.mem_filter.1 hx).2, fun x hx => (List.mem_filter.1 hx).2⟩
  induction L with
  | nil => rfl
  | cons a L ih =>
    have h1 := List.pairwise_cons.1 hs
    have ih := ih h1.2
    rw [List.filter_cons, List.filter_cons, List.filter_cons]
    cases ha : unLt a u with
    | true =>
      have hb : unLt u a = false := lt_asymm9 ha
      have hc : unSame a u = false := by cases hc : unSame a u with
        | false => rfl
        | true =>
          have h2 := (same_iff _ _).1 hc
          have h3 := (lt_iff _ _).1 ha
          omega
      rw [hb, hc]
      simp only [if_true, Bool.false_eq_true, if_false, List.cons_append, List.cons.injEq, true_and]
      exact ih
    | false =>
      have n1 : L.filter (unLt · u) = [] := by
        refine List.filter_eq_nil_iff.2 fun x hx => ?_
        have := h1.1 x hx
        have h4 := (lt_iff _ _).1 this
        have h5 := (lt_not _ _).1 ha
        have : ¬ unLt x u = true := by rw [lt_iff]; omega
        exact this
      rw [n1] at ih ⊢
      cases hb : unSame a u with
      | true =>
        rw [same_irr hb]
        simp only [if_true, Bool.false_eq_true, if_false, List.cons_append, List.nil_append, List.cons.injEq, true_and] at *
        exact ih
      | false =>
        have hc : unLt u a = true := lt_tri ha hb
        have n2 : L.filter (unSame · u) = [] := by
          refine List.filter_eq_nil_iff.2 fun x hx => ?_
          have h4 := (lt_iff _ _).1 (h1.1 x hx)
          have h5 := (lt_iff _ _).1 hc
          have : ¬ unSame x u = true := by rw [same_iff]; omega
          exact this
        rw [n2] at ih ⊢
        rw [hc]
        simp only [if_true, Bool.false_eq_true, if_false, List.nil_append, List.cons.injEq, true_and] at *
        exact ih
theorem key_same {u x : UnM} : keyIs u.group u.index x = unSame x u := rfl
theorem lt_nokey {u x : UnM} (h : unLt x u = true ∨ unLt u x = true) : unSame x u = false := by
  cases hc : unSame x u with
  | false => rfl
  | true =>
    have h2 := (same_iff _ _).1 hc
    rw [lt_iff, lt_iff] at h
    omega
theorem find_mid {A Z : List UnM} {u v : UnM} (hA : ∀ x ∈ A, unSame x u = false) (hv : unSame v u = true) : (A ++ [v] ++ Z).find? (keyIs u.group u.index) = some v := by
  rw [List.append_assoc, List.find?_append, List.find?_eq_none.2 (fun x hx => by rw [key_same, hA x hx]; simp)]
  simp [key_same, hv]
theorem idx_mid {A Z : List UnM} {u v : UnM} (hA : ∀ x ∈ A, unSame x u = false) (hv : unSame v u = true) : unIdx (A ++ [v] ++ Z) u.group u.index = A.length := by
  unfold unIdx
  rw [List.findIdx_eq (by simp)]
  refine ⟨?_, fun j hj => ?_⟩
  · simp only [List.append_assoc, List.cons_append, List.nil_append, List.getElem_append_right (Nat.le_refl _), Nat.sub_self, List.getElem_cons_zero]
    exact hv
  · have : (A ++ [v] ++ Z)[j]'(by simp; omega) = A[j] := by
      simp [List.getElem_append_left, hj]
    rw [this]
    exact hA _ (List.getElem_mem hj)
theorem get_mid {A Z : List UnM} {v : UnM} : (A ++ [v] ++ Z).getD A.length default = v := by simp [List.getD]
theorem set_mid {A Z : List UnM} {v x : UnM} : (A ++ [v] ++ Z).set A.length x = A ++ [x] ++ Z := by simp
theorem cut_mid {A Z : List UnM} {v : UnM} : (A ++ [v] ++ Z).take A.length ++ (A ++ [v] ++ Z).drop (A.length + 1) = A ++ Z := by
  have : A ++ [v] ++ Z = A ++ (v :: Z) := by simp
  rw [this, List.take_left, ← List.drop_drop, List.drop_left]
  rfl
theorem lt_mid {A Z : List UnM} {v : UnM} : A.length < (A ++ [v] ++ Z).length := by simp
theorem size_list (t : ByteArray) (h : 0 < t.size) : (t.toList == []) = false := by
  rw [Go.ByteArray.toList_eq]
  cases hq : t.data.toList with
  | cons a l => rfl
  | nil =>
    have : t.data.toList.length = t.size := rfl
    rw [hq] at this
    simp at this
    omega
/-- Nothing that FnUnits asks of plain hosts is otherwise. -/
structure UnitsAll (H : HM) (u : UnM) (p : Int) (N B D : HM) : Prop where
  put : putX H u = (N, true)
  up : N.up = true
  okN : hostOk N = true
  got : getX N u.group u.index = (u.text, true)
  spoil : spoilX N u.group u.index p = (B, true)
  okB : hostOk B = true
  bad : (getX B u.group u.index).2 = false
  again : spoilX B u.group u.index p = (B, false)
  drop : dropU N u.group u.index = (D, true)
  okD : hostOk D = true
  none : (getX D u.group u.index).2 = false
  others : ∀ x ∈ H.us, unSame x u = false → getX H x.group x.index = getX D x.group x.index
  down : (getX ⟨N.id, false, N.us⟩ u.group u.index).2 = false
  len : D.us.length + 1 = N.us.length
  low : N.us.length ≤ H.us.length + 1
theorem up_mid {A Z : List UnM} {v : UnM} (hs : UpU (A ++ Z)) (h1 : ∀ x ∈ A, unLt x v = true) (h2 : ∀ x ∈ Z, unLt v x = true) : UpU (A ++ [v] ++ Z) := by
  unfold UpU at *
  rw [List.pairwise_append] at hs
  rw [List.append_assoc, List.pairwise_append]
  refine ⟨hs.1, ?_, fun x hx y hy => ?_⟩
  · rw [List.cons_append, List.nil_append, List.pairwise_cons]
    exact ⟨h2, hs.2.1⟩
  · rcases List.mem_append.1 hy with h | h
    · simp at h; subst h; exact h1 x hx
    · exact hs.2.2 x hx y h
theorem units_all (H : HM) (u : UnM) (p : Int) (hup : H.up = true) (hok : hostOk H = true) (hg : 1 ≤ u.group ∧ u.group ≤ 100000) (hi : 0 ≤ u.index ∧ u.index ≤ 5) (ht : u.text.size ≤ 200) (ht0 : 0 < u.text.size) (hp : 0 ≤ p) : ∃ N B D, UnitsAll H u p N B D := by
  have hu : unitsOk H.us = true ∧ inI H.id 1 7 = true := by unfold hostOk at hok; simpa using hok
  have hs := up_of_ok hu.1
  have hone := one_of_ok hu.1
  have so : summed u = ⟨u.group, u.index, u.text, sumN u.text⟩ := rfl
  obtain ⟨A, M, Z, hL, hput, hA, hZ, hM⟩ := putX_parts (u := summed u) hs
  have hAs : ∀ x ∈ A, unSame x u = false := fun x hx => lt_nokey (u := summed u) (.inl (hA x hx))
  have hZs : ∀ x ∈ Z, unSame x u = false := fun x hx => lt_nokey (u := summed u) (.inr (hZ x hx))
  have same : ∀ t s, unSame ⟨u.group, u.index, t, s⟩ u = true := fun t s => by unfold unSame; simp
  have hlow := sumN_low u.text
  have hAZ : UpU (A ++ Z) := by
    have : (A ++ Z).Sublist H.us := by
      rw [hL, List.append_assoc]
      exact List.Sublist.append (List.Sublist.refl _) (List.sublist_append_right _ _)
    exact List.Pairwise.sublist this hs
  have h1A : ∀ x ∈ A ++ Z, unOne x = true := fun x hx => hone x (by
    rw [hL]
    rcases List.mem_append.1 hx with h | h
    · exact List.mem_append_left _ (List.mem_append_left _ h)
    · exact List.mem_append_right _ h)
  have ok3 : ∀ t : ByteArray, t.size ≤ 200 → hostOk ⟨H.id, H.up, A ++ [⟨u.group, u.index, t, sumN u.text⟩] ++ Z⟩ = true := fun t ht => by
    unfold hostOk
    dsimp only
    rw [hu.2, Bool.and_true]
    refine ok_of_up (up_mid hAZ (fun x hx => ?_) (fun x hx => ?_)) fun x hx => ?_
    · have := (lt_iff _ _).1 (hA x hx); rw [lt_iff]; exact this
    · have := (lt_iff _ _).1 (hZ x hx); rw [lt_iff]; exact this
    · rcases List.mem_append.1 hx with h | h
      · rcases List.mem_append.1 h with h | h
        · exact h1A x (List.mem_append_left _ h)
        · simp at h
          subst h
          unfold unOne inI
          simp [hg, hi, hlow, ht]
      · exact h1A x (List.mem_append_right _ h)
  have idx : ∀ t s, unIdx (A ++ [⟨u.group, u.index, t, s⟩] ++ Z) u.group u.index = A.length := fun t s => idx_mid hAs (same t s)
  have hsize : ∀ k, (turnAt u.text k).size = u.text.size := fun k => by
    unfold turnAt
    show (u.text.data.toList.set k _).toArray.size = u.text.data.size
    simp
  have hnone : (A ++ Z).find? (keyIs u.group u.index) = none := List.find?_eq_none.2 fun x hx => by
    rw [key_same]
    rcases List.mem_append.1 hx with h | h
    · rw [hAs x h]; simp
    · rw [hZs x h]; simp
  have hturn := sum_turned u.text (p.toNat % u.text.size) (Nat.mod_lt _ ht0)
  refine ⟨⟨H.id, H.up, A ++ [⟨u.group, u.index, u.text, sumN u.text⟩] ++ Z⟩, ⟨H.id, H.up, A ++ [⟨u.group, u.index, turnAt u.text (p.toNat % u.text.size), sumN u.text⟩] ++ Z⟩, ⟨H.id, H.up, A ++ Z⟩, ?_⟩
  constructor
  · unfold putX
    rw [hput, so, hok, hup, ← hup, ok3 _ ht, hup]
    rfl
  · exact hup
  · exact ok3 _ ht
  · rw [getX_find, find_mid hAs (same _ _)]
    unfold unSound
    simp [hup]
  · unfold spoilX
    dsimp only
    rw [idx, get_mid, set_mid]
    dsimp only
    rw [size_list _ ht0]
    unfold unSound
    simp [hp]
  · exact ok3 _ (by rw [hsize]; exact ht)
  · rw [getX_find, find_mid hAs (same _ _)]
    unfold unSound
    have : (sumN u.text == sumN (turnAt u.text (p.toNat % u.text.size))) = false := by
      cases hq : sumN u.text == sumN (turnAt u.text (p.toNat % u.text.size)) with
      | false => rfl
      | true => exact absurd (by simpa using hq : sumN u.text = _).symm hturn
    dsimp only
    rw [this]
    simp
  · unfold spoilX
    dsimp only
    rw [idx, get_mid]
    unfold unSound
    have : (sumN u.text == sumN (turnAt u.text (p.toNat % u.text.size))) = false := by
      cases hq : sumN u.text == sumN (turnAt u.text (p.toNat % u.text.size)) with
      | false => rfl
      | true => exact absurd (by simpa using hq : sumN u.text = _).symm hturn
    dsimp only
    rw [this]
    simp
  · unfold dropU
    dsimp only
    rw [idx, if_pos lt_mid, cut_mid]
  · unfold hostOk
    dsimp only
    rw [ok_of_up hAZ h1A, hu.2]
    rfl
  · rw [getX_find]
    dsimp only
    rw [hnone]
  · intro x hx hxu
    rw [getX_find, getX_find]
    have e : H.us.find? (keyIs x.group x.index) = (A ++ Z).find? (keyIs x.group x.index) := by
      rw [hL, List.find?_append, List.find?_append, List.find?_append, (show M.find? (keyIs x.group x.index) = none from List.find?_eq_none.2 fun y hy => ?_), Option.or_none]
      have h1 := (same_iff _ _).1 (hM y hy)
      have h2 : ¬ unSame x u = true := by rw [hxu]; simp
      rw [same_iff] at h2
      intro h3
      have h4 : unSame y x = true := h3
      rw [same_iff] at h4
      rw [so] at h1
      dsimp only at h1
      omega
    rw [e]
  · rw [getX_find]
    dsimp only
    split <;> simp
  · simp
    omega
  · show (A ++ [_] ++ Z).length ≤ _
    rw [hL]
    simp
    omega
end Go.Proofs.Ytoaifodmjkhiiaa
