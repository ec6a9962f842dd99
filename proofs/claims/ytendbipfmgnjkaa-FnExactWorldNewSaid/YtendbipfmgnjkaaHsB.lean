/- Marks in rows of hosts. -/
import Derived.Test.YtendbipfmgnjkaaHsA
namespace Go.Proofs.Ytendbipfmgnjkaa
set_option maxRecDepth 100000
open Go.RowKit BigFrame
attribute [local go_sem ↓] Go.wp_at_zero Go.wp_at_succ

/-- One cell of a host of such a row is turned. -/
theorem GW.cell3 {w : World} {g lo hi : Nat} {rs : List HoR} (h : GW HK w g rs lo hi) (j : Nat) (hj : j < rs.length) (f : Nat) (hf : f < 3) (v : Value) (r : HoR) (hc : hC r = (hC rs[j]).set f v) (hl : r.loc = rs[j].loc) (hi' : r.h.us = rs[j].h.us) : GW HK (w.setCell ⟨g, j * 3 + f, none⟩ v) g (rs.set j r) lo hi := by
  have hin : ∀ s t : HoR, s.h.us = t.h.us → HK.inn s = HK.inn t := fun s t e => by show unS s.h.us = unS t.h.us; rw [e]
  refine ⟨?_, h.glo, h.ghi, fun s hs => ?_, ?_⟩
  · have q := h.out.set (j * 3 + f) v (by rw [HK.cells_len]; show j * 3 + f < rs.length * 3; omega)
    have e : (HK.cells rs).set (j * 3 + f) v = HK.cells (rs.set j r) := by
      apply List.ext_getElem?
      intro i
      by_cases hi : i < rs.length * 3
      · obtain ⟨a, b, hb, rfl⟩ : ∃ a b, b < 3 ∧ i = a * 3 + b := ⟨i / 3, i % 3, by omega, by omega⟩
        have ha : a < rs.length := by omega
        have e2 : (HK.cells (rs.set j r))[a * 3 + b]? = (hC ((rs.set j r)[a]'(by rw [List.length_set]; exact ha)))[b]? := HK.cells_get (rs.set j r) a (by rw [List.length_set]; exact ha) b hb
        have e1 : (HK.cells rs)[a * 3 + b]? = (hC rs[a])[b]? := HK.cells_get rs a ha b hb
        rw [e2, List.getElem?_set, List.getElem_set]
        by_cases hja : j = a
        · subst hja
          rw [if_pos rfl, hc, List.getElem?_set, hC_len]
          by_cases hfb : f = b
          · subst hfb
            rw [if_pos rfl, if_pos rfl, HK.cells_len, if_pos (by show j * 3 + f < rs.length * 3; omega), if_pos hf]
          · rw [if_neg (by omega), if_neg hfb, e1]
        · rw [if_neg (by omega), if_neg hja, e1]
      · have l1 : (HK.cells rs).length = rs.length * 3 := HK.cells_len rs
        have l2 : (HK.cells (rs.set j r)).length = rs.length * 3 := by rw [HK.cells_len, List.length_set]; rfl
        rw [List.getElem?_eq_none (by rw [List.length_set, l1]; omega), List.getElem?_eq_none (by rw [l2]; omega)]
    rw [e] at q
    exact q
  · rcases List.mem_or_eq_of_mem_set hs with q | rfl
    · rcases h.rows s q with e | ⟨b, e, q1, q2, q3, q4⟩
      · exact .inl e
      · exact .inr ⟨b, e, q1, q2, q3, WCells.turned q4 (Turned.of_grown (gb_set' w g (j * 3 + f) v) (Nat.le_refl _) (Nat.lt_succ_self _)) (by omega)⟩
    · rcases h.rows rs[j] (List.getElem_mem hj) with e | ⟨b, e, q1, q2, q3, q4⟩
      · exact .inl ((hin _ _ hi').trans e)
      · exact .inr ⟨b, hl.trans e, q1, q2, q3, by rw [hin _ _ hi']; exact WCells.turned q4 (Turned.of_grown (gb_set' w g (j * 3 + f) v) (Nat.le_refl _) (Nat.lt_succ_self _)) (by omega)⟩
  · refine List.pairwise_iff_getElem.2 fun a b ha hb hab h1 h2 => ?_
    rw [List.length_set] at ha hb
    have q := List.pairwise_iff_getElem.1 h.apart a b ha hb hab
    have same : ∀ c (hcl : c < rs.length), HK.inn ((rs.set j r)[c]'(by rw [List.length_set]; exact hcl)) = HK.inn rs[c] ∧ HK.loc ((rs.set j r)[c]'(by rw [List.length_set]; exact hcl)) = HK.loc rs[c] := fun c hcl => by
      rw [List.getElem_set]
      split
      · rename_i e; subst e; exact ⟨hin _ _ hi', hl⟩
      · exact ⟨rfl, rfl⟩
    rw [(same a ha).1] at h1
    rw [(same b hb).1] at h2
    rw [(same a ha).2, (same b hb).2]
    exact q h1 h2
/-- The units of a host of such a row are turned, as many as there were. -/
theorem GW.units {w w' : World} {g lo hi b : Nat} {rs : List HoR} (h : GW HK w g rs lo hi) (j : Nat) (hj : j < rs.length) (us : List UnM) (hlen : us.length = rs[j].h.us.length) (hne : 0 < us.length)
    (hb : rs[j].loc = some ⟨b, 0, none⟩) (hbg : b ≠ g) (h1 : lo ≤ b) (h2 : b < hi) (hg : w.grownBy w' (some b)) (hw : WCells w' b (unS us)) :
    GW HK w' g (rs.set j ⟨⟨rs[j].h.id, rs[j].h.up, us⟩, rs[j].loc, rs[j].cap⟩) lo hi := by
  have t : Turned w w' b (b + 1) := Turned.of_grown hg (Nat.le_refl _) (Nat.lt_succ_self _)
  have hinn : ∀ r : HoR, 0 < r.h.us.length → HK.inn r ≠ [] := fun r hr e => by
    have := congrArg List.length (show unS r.h.us = [] from e)
    rw [unS_len] at this
    simp at this
    omega
  have hsame : ∀ c (hc : c < rs.length), c ≠ j → (rs.set j (⟨⟨rs[j].h.id, rs[j].h.up, us⟩, rs[j].loc, rs[j].cap⟩ : HoR))[c]'(by rw [List.length_set]; exact hc) = rs[c] := fun c hc hcj => by rw [List.getElem_set_ne (Ne.symm hcj)]
  have hap : ∀ c (hc : c < rs.length), c ≠ j → HK.inn rs[c] ≠ [] → rs[c].loc ≠ rs[j].loc := fun c hc hcj h3 => by
    have hj0 : HK.inn rs[j] ≠ [] := hinn _ (by omega)
    rcases Nat.lt_or_gt_of_ne hcj with e | e
    · exact List.pairwise_iff_getElem.1 h.apart c j hc hj e h3 hj0
    · exact (List.pairwise_iff_getElem.1 h.apart j c hj hc e hj0 h3).symm
  refine ⟨?_, h.glo, h.ghi, fun s hs => ?_, ?_⟩
  · have e : HK.cells (rs.set j ⟨⟨rs[j].h.id, rs[j].h.up, us⟩, rs[j].loc, rs[j].cap⟩) = HK.cells rs := by
      apply List.ext_getElem?
      intro i
      by_cases hi : i < rs.length * 3
      · obtain ⟨a, c, hc, rfl⟩ : ∃ a c, c < 3 ∧ i = a * 3 + c := ⟨i / 3, i % 3, by omega, by omega⟩
        have ha : a < rs.length := by omega
        have e2 : (HK.cells (rs.set j (⟨⟨rs[j].h.id, rs[j].h.up, us⟩, rs[j].loc, rs[j].cap⟩ : HoR)))[a * 3 + c]? = (hC ((rs.set j (⟨⟨rs[j].h.id, rs[j].h.up, us⟩, rs[j].loc, rs[j].cap⟩ : HoR))[a]'(by rw [List.length_set]; exact ha)))[c]? := HK.cells_get _ a (by rw [List.length_set]; exact ha) c hc
        have e1 : (HK.cells rs)[a * 3 + c]? = (hC rs[a])[c]? := HK.cells_get rs a ha c hc
        rw [e2, e1, List.getElem_set]
        split
        · rename_i e; subst e; unfold hC; dsimp only; rw [hlen]
        · rfl
      · have l1 : (HK.cells rs).length = rs.length * 3 := HK.cells_len rs
        have l2 : (HK.cells (rs.set j (⟨⟨rs[j].h.id, rs[j].h.up, us⟩, rs[j].loc, rs[j].cap⟩ : HoR))).length = rs.length * 3 := by rw [HK.cells_len, List.length_set]; rfl
        rw [List.getElem?_eq_none (by rw [l2]; omega), List.getElem?_eq_none (by rw [l1]; omega)]
    rw [e]
    exact h.out.turned t (by omega)
  · obtain ⟨c, hc, rfl⟩ := List.getElem_of_mem hs
    have hc' : c < rs.length := by rw [List.length_set] at hc; exact hc
    by_cases hcj : c = j
    · subst hcj
      rw [List.getElem_set_self]
      exact .inr ⟨b, hb, h1, h2, hbg, hw⟩
    · rw [hsame c hc' hcj]
      rcases h.rows rs[c] (List.getElem_mem hc') with e | ⟨q, e, q1, q2, q3, q4⟩
      · exact .inl e
      · by_cases hq : HK.inn rs[c] = []
        · exact .inl hq
        · have hqb : q ≠ b := fun e2 => hap c hc' hcj hq (by
            have e3 : rs[c].loc = some ⟨q, 0, none⟩ := e
            rw [e3, hb, e2])
          exact .inr ⟨q, e, q1, q2, q3, q4.turned t (by omega)⟩
  · refine List.pairwise_iff_getElem.2 fun c d hc9 hd9 hcd h3 h4 => ?_
    have hc : c < rs.length := by rw [List.length_set] at hc9; exact hc9
    have hd : d < rs.length := by rw [List.length_set] at hd9; exact hd9
    have loc : ∀ z (hz : z < rs.length), HK.loc ((rs.set j (⟨⟨rs[j].h.id, rs[j].h.up, us⟩, rs[j].loc, rs[j].cap⟩ : HoR))[z]'(by rw [List.length_set]; exact hz)) = rs[z].loc := fun z hz => by
      rw [List.getElem_set]
      split
      · rename_i e; subst e; rfl
      · rfl
    rw [loc c hc, loc d hd]
    by_cases ec : c = j
    · subst ec
      rw [hsame d hd (by omega)] at h4
      exact (hap d hd (by omega) h4).symm
    · rw [hsame c hc ec] at h3
      by_cases ed : d = j
      · subst ed
        exact hap c hc ec h3
      · rw [hsame d hd ed] at h4
        exact List.pairwise_iff_getElem.1 h.apart c d hc hd hcd h3 h4
theorem mod3 (c : Nat) : ((c : Int).tmod 3 == 0) = (c % 3 == 0) := by
  have : (c : Int).tmod 3 = ((c % 3 : Nat) : Int) := by
    rw [Int.tmod_eq_emod_of_nonneg (by omega)]
    omega
  rw [this]
  cases h : c % 3 == 0 with
  | true => simp at h ⊢; omega
  | false => simp at h ⊢; omega
set_option maxRecDepth 100000 in
set_option maxHeartbeats 4000000 in
theorem markHostS_all (g : Nat) (rs : List HoR) (k9 ca lo hi : Nat) (w : World) (ha : GW HK w g rs lo hi) (hcp : ∀ r ∈ rs, r.h.us.length ≤ r.cap) (hk : 0 < k9) (hn : endH k9 (hms rs) ≤ 1000000000) :
    Calls Try.prog 37 #[.slice (some ⟨g, 0, none⟩) rs.length ca, .int .i64 k9] w fun e w' => e = .returned (.int .i64 (endH k9 (hms rs) : Nat)) ∧ ∃ ys : List HoR, ys.length = rs.length ∧ hms ys = marksH k9 (hms rs) ∧ (∀ r ∈ ys, r.h.us.length ≤ r.cap) ∧ GW HK w' g ys lo hi ∧ Turned w w' lo hi := by
  obtain ⟨n, hnn⟩ : ∃ n, n = rs.length := ⟨_, rfl⟩
  have HN := Shut.mk hnn
  obtain ⟨hs, hhs⟩ : ∃ q, q = hms rs := ⟨_, rfl⟩
  rw [← hnn, ← hhs]
  rw [← hhs] at hn
  have HHS := Shut.mk hhs
  have HA := Shut.mk ha
  have HCP := Shut.mk hcp
  have HL : Shut (hs.length = n) := ⟨by rw [hhs, hms_len, hnn]⟩
  have HEN : Shut (∀ j, endH k9 (hs.take j) ≤ endH k9 hs ∧ k9 ≤ endH k9 (hs.take j)) := ⟨fun j => by
    rw [endH_eq, endH_eq]
    have e1 : hs.length = (hs.take j).length + (hs.drop j).length := by rw [← List.length_append, List.take_append_drop]
    have e2 : (hs.map fun h => h.us.length).sum = ((hs.take j).map fun h => h.us.length).sum + ((hs.drop j).map fun h => h.us.length).sum := by rw [← List.sum_append, ← List.map_append, List.take_append_drop]
    omega⟩
  have hl : n ≤ 1000000000 := by have := endH_eq k9 hs; have := HL.out; omega
  clear ha hcp hnn hhs
  go_enter Try.func37, Try.ntmps37
  go_wp2_with fail
  go_loopw [1, 5] (fun v i wr => ∃ (j c : Nat) (ys : List HoR), i = .int .i64 j ∧ v = .int .i64 c ∧ j ≤ n ∧ Shut (c = endH k9 (hs.take j)) ∧ Shut (ys.length = n ∧ (∀ r ∈ ys, r.h.us.length ≤ r.cap) ∧ (∀ t (ht : t < n) (hy : t < ys.length) (hm : t < (marksH k9 hs).length), t < j → ys[t].h = (marksH k9 hs)[t]) ∧ (∀ t, j ≤ t → ys[t]? = rs[t]?)) ∧ Shut (GW HK wr g ys lo hi ∧ Turned w wr lo hi)) (fun _ i _ => n - (intOf i).toNat)
  case atStart => exact ⟨0, k9, rs, rfl, rfl, Nat.zero_le _, ⟨by simp [endH]⟩, ⟨HN.out.symm, HCP.out, fun t _ _ _ ht => by omega, fun t _ => rfl⟩, ⟨HA.out, Turned.refl _ _ _⟩⟩
  case round =>
    obtain ⟨j, c, ys, rfl, rfl, hj, HC, HY, HW⟩ := hrel
    by_cases hlt : j < n
    · have j0 : (0 : Int) ≤ (j : Int) := by omega
      have j1 : (j : Int) < (n : Int) := by omega
      have hjy : j < ys.length := by have := HY.out.1; omega
      have hjr : j < rs.length := by have := HN.out; omega
      have hyr : ys[j] = rs[j] := by
        have q := HY.out.2.2.2 j (Nat.le_refl _)
        rw [List.getElem?_eq_getElem hjy, List.getElem?_eq_getElem hjr] at q
        exact Option.some.inj q
      have hjs : j < hs.length := by have := HL.out; omega
      have hsj : hs[j] = ys[j].h := by rw [hyr]; simp [HHS.out, hms]
      have hcb : c + 2 + 4 * ys[j].h.us.length ≤ 1000000000 := by
        have q1 := HEN.out (j + 1)
        rw [endH_take k9 hs j hjs, ← HC.out, hsj] at q1
        omega
      have HNX : Shut (c + 2 + 4 * ys[j].h.us.length = endH k9 (hs.take (j + 1))) := ⟨by rw [endH_take k9 hs j hjs, ← HC.out, hsj]⟩
      have hc0 : 0 < c := by have := (HEN.out j).2; have := HC.out; omega
      obtain ⟨y, hy⟩ : ∃ y, y = ys[j] := ⟨_, rfl⟩
      have hw0 := HW.out.1.out
      obtain ⟨c0, z0⟩ := hw0.2 (j * 3) _ (HK.cells_get ys j hjy 0 (by decide))
      obtain ⟨c1, z1⟩ := hw0.2 (j * 3 + 1) _ (HK.cells_get ys j hjy 1 (by decide))
      obtain ⟨c2, z2⟩ := hw0.2 (j * 3 + 2) _ (HK.cells_get ys j hjy 2 (by decide))
      rw [← hy] at hcb HNX
      obtain ⟨q, hq⟩ : ∃ q, q = ((c + 1) % 3 == 0) := ⟨_, rfl⟩
      have hq2 : (((c : Int) + 1) % 3 == 0) = q := by
        rw [hq, ← mod3, Int.tmod_eq_emod_of_nonneg (by omega)]
        push_cast
        rfl
      have HG1 : Shut (GW HK (wr.setCell ⟨g, j * 3, none⟩ (.int .i64 c)) g (ys.set j ⟨⟨c, y.h.up, y.h.us⟩, y.loc, y.cap⟩) lo hi) := ⟨by
        have k := HW.out.1.cell3 j hjy 0 (by decide) (.int .i64 c) ⟨⟨c, y.h.up, y.h.us⟩, y.loc, y.cap⟩ (by rw [hy]; rfl) (by rw [hy]) (by rw [hy])
        rw [Nat.add_zero] at k
        exact k⟩
      have HG2 : Shut (GW HK ((wr.setCell ⟨g, j * 3, none⟩ (.int .i64 c)).setCell ⟨g, j * 3 + 1, none⟩ (.bool q)) g (ys.set j ⟨⟨c, q, y.h.us⟩, y.loc, y.cap⟩) lo hi) := ⟨by
        have k := HG1.out.cell3 j (by rw [List.length_set]; exact hjy) 1 (by decide) (.bool q) ⟨⟨c, q, y.h.us⟩, y.loc, y.cap⟩ (by rw [List.getElem_set_self]; rfl) (by rw [List.getElem_set_self]) (by rw [List.getElem_set_self])
        rw [List.set_set] at k
        exact k⟩
      have HT2 : Shut (Turned w ((wr.setCell ⟨g, j * 3, none⟩ (.int .i64 c)).setCell ⟨g, j * 3 + 1, none⟩ (.bool q)) lo hi) := ⟨(HW.out.2.trans (Turned.of_grown (gb_set' _ g _ _) HW.out.1.glo HW.out.1.ghi)).trans (Turned.of_grown (gb_set' _ g _ _) HW.out.1.glo HW.out.1.ghi)⟩
      have HMK : Shut (∀ m, m = y.h.us.length → (⟨(c : Nat), q, marksU (c + 2) m⟩ : HM) = (marksH k9 hs)[j]'(by rw [marksH_len]; exact hjs)) := ⟨fun m hm => by rw [marksH_at k9 hs j hjs, ← HC.out, hq, hm, hsj, ← hy]⟩
      have HCY : Shut (y.h.us.length ≤ y.cap) := ⟨by rw [hy]; exact HY.out.2.1 _ (List.getElem_mem hjy)⟩
      have HDONE : Shut (∀ (m : Nat) (r : HoR), m = y.h.us.length → r.h = ⟨(c : Nat), q, marksU (c + 2) m⟩ → r.cap = y.cap → ((ys.set j r).length = n ∧ (∀ s ∈ ys.set j r, s.h.us.length ≤ s.cap) ∧ (∀ t (ht : t < n) (h1 : t < (ys.set j r).length) (hm : t < (marksH k9 hs).length), t < j + 1 → (ys.set j r)[t].h = (marksH k9 hs)[t]) ∧ (∀ t, j + 1 ≤ t → (ys.set j r)[t]? = rs[t]?))) := ⟨fun m r hm hr hrc => ⟨by rw [List.length_set]; exact HY.out.1, fun s hs9 => by
          rcases List.mem_or_eq_of_mem_set hs9 with e | rfl
          · exact HY.out.2.1 s e
          · rw [hr, hrc]; show (marksU (c + 2) m).length ≤ y.cap; rw [marksU_len, hm]; exact HCY.out, fun t ht h1 h2 htj => by
          rw [List.length_set] at h1
          rw [List.getElem_set]
          split
          · rename_i e; subst e; rw [hr]; exact HMK.out m hm
          · exact HY.out.2.2.1 t ht h1 h2 (by omega), fun t ht => by rw [List.getElem?_set_ne (by omega)]; exact HY.out.2.2.2 t (by omega)⟩⟩
      obtain ⟨m, hm⟩ : ∃ m, m = y.h.us.length := ⟨_, rfl⟩
      have at9 : ∀ (r : HoR) (W : World), GW HK W g (ys.set j r) lo hi → ∀ f v, f < 3 → (hC r)[f]? = some v → W.cell? ⟨g, j * 3 + f, none⟩ = some v ∧ W.frozen? ⟨g, j * 3 + f, none⟩ = false := fun r W h f v hf hv => h.out.2 (j * 3 + f) v (by
        have k := HK.cells_get (ys.set j r) j (by rw [List.length_set]; exact hjy) f hf
        rw [List.getElem_set_self] at k
        exact k.trans hv)
      obtain ⟨a1, b1⟩ := at9 _ _ HG1.out 1 _ (by omega) rfl
      obtain ⟨a2, b2⟩ := at9 _ _ HG2.out 2 _ (by omega) rfl
      have HROW : Shut (y.h.us = [] ∨ ∃ b, y.loc = some ⟨b, 0, none⟩ ∧ lo ≤ b ∧ b < hi ∧ b ≠ g ∧ WCells ((wr.setCell ⟨g, j * 3, none⟩ (.int .i64 c)).setCell ⟨g, j * 3 + 1, none⟩ (.bool q)) b (unS y.h.us)) := ⟨by
        rcases HG2.out.rows ⟨⟨c, q, y.h.us⟩, y.loc, y.cap⟩ (List.mem_set hjy _) with e | h
        · left
          have e1 : unS y.h.us = [] := e
          have e3 := congrArg List.length e1
          rw [unS_len] at e3
          exact List.eq_nil_of_length_eq_zero (by simp at e3; omega)
        · exact .inr h⟩
      have HCW : Shut (((c + 2 : Nat) : Int) = (c : Int) + 1 + 1) := ⟨by omega⟩
      rw [← hm] at a2 hcb HNX
      have HM9 := Shut.mk hm
      have HSS : Shut (∀ us9, (ys.set j (⟨⟨c, q, y.h.us⟩, y.loc, y.cap⟩ : HoR)).set j ⟨⟨c, q, us9⟩, y.loc, y.cap⟩ = ys.set j ⟨⟨c, q, us9⟩, y.loc, y.cap⟩) := ⟨fun us9 => by rw [List.set_set]⟩
      have HGJ : Shut ((ys.set j (⟨⟨c, q, y.h.us⟩, y.loc, y.cap⟩ : HoR))[j]'(by rw [List.length_set]; exact hjy) = ⟨⟨c, q, y.h.us⟩, y.loc, y.cap⟩) := ⟨List.getElem_set_self _⟩
      have hlj : j < (ys.set j (⟨⟨c, q, y.h.us⟩, y.loc, y.cap⟩ : HoR)).length := by rw [List.length_set]; exact hjy
      clear hw0 c1 z1 c2 z2 at9 hq hm hyr hsj hy
      by_cases hm0 : m = 0
      · have HZ := Shut.mk (fun W => markUnitS_zero y.loc (c + 2) y.cap W)
        simp only [HCW.out] at HZ
        have HNIL : Shut (y.h.us = []) := ⟨List.eq_nil_of_length_eq_zero (by have := HM9.out; omega)⟩
        subst hm0
        go_wp2_with (go_at_call 66; refine (HZ.out _).mono ?_; rintro e w3 ⟨rfl, hw3⟩; subst hw3)
        go_roundw
        case rel => exact ⟨j + 1, c + 2, ys.set j ⟨⟨c, q, []⟩, y.loc, y.cap⟩, by go_num, congrArg (Value.int .i64) (by omega), by omega, ⟨by have := HNX.out; omega⟩, ⟨HDONE.out 0 _ HM9.out rfl rfl⟩, ⟨by have k := HG2.out; rw [HNIL.out] at k; exact k, HT2.out⟩⟩
        case measure => simp [intOf]; omega
      · obtain ⟨b, hb, hb1, hb2, hbg, hbw⟩ : ∃ b, y.loc = some ⟨b, 0, none⟩ ∧ lo ≤ b ∧ b < hi ∧ b ≠ g ∧ WCells ((wr.setCell ⟨g, j * 3, none⟩ (.int .i64 c)).setCell ⟨g, j * 3 + 1, none⟩ (.bool q)) b (unS y.h.us) := by
          rcases HROW.out with e | h
          · exact absurd (by have := HM9.out; rw [e] at this; exact this) hm0
          · exact h
        have HMU := Shut.mk (markUnitS_all b y.h.us (c + 2) y.cap _ hbw (by omega) (by have := HM9.out; omega) HCY.out)
        rw [← HM9.out, ← hb, HCW.out] at HMU
        have HBB := Shut.mk (And.intro hb (And.intro hb1 (And.intro hb2 hbg)))
        clear hbw hb hb1 hb2 hbg
        go_wp2_with (go_at_call 66; refine HMU.out.mono ?_; rintro e w3 ⟨rfl, hw3, hg3⟩; have HW3 := Shut.mk (And.intro hw3 hg3); clear hw3 hg3)
        have HG3 : Shut (GW HK w3 g (ys.set j ⟨⟨c, q, marksU (c + 2) m⟩, y.loc, y.cap⟩) lo hi ∧ Turned w w3 lo hi) := ⟨by
          have k := HG2.out.units j hlj (marksU (c + 2) m) (by rw [marksU_len, HGJ.out]; exact HM9.out) (by rw [marksU_len]; omega) (b := b) (by rw [HGJ.out]; exact HBB.out.1) HBB.out.2.2.2 HBB.out.2.1 HBB.out.2.2.1 HW3.out.2 HW3.out.1
          rw [HGJ.out] at k
          dsimp only at k
          rw [HSS.out] at k
          exact ⟨k, HT2.out.trans (Turned.of_grown HW3.out.2 HBB.out.2.1 HBB.out.2.2.1)⟩⟩
        go_roundw
        case rel => exact ⟨j + 1, c + 2 + 4 * m, ys.set j ⟨⟨c, q, marksU (c + 2) m⟩, y.loc, y.cap⟩, by go_num, rfl, by omega, HNX, ⟨HDONE.out m _ HM9.out rfl rfl⟩, HG3⟩
        case measure => simp [intOf]; omega
    · obtain rfl : n = j := by omega
      have HE : Shut (c = endH k9 hs) := ⟨by rw [HC.out, List.take_of_length_le (by rw [HL.out]; exact Nat.le_refl _)]⟩
      have HM : Shut (hms ys = marksH k9 hs) := ⟨by
        apply List.ext_getElem
        · rw [hms_len, marksH_len, HL.out, HY.out.1]
        · intro t h1 h2
          rw [hms_len] at h1
          have q := HY.out.2.2.1 t (by have := HY.out.1; omega) h1 h2 (by have := HY.out.1; omega)
          simp only [hms, List.getElem_map]
          exact q⟩
      go_wp2_with fail
      go_ret
      exact ⟨by rw [HE.out]; rfl, ys, HY.out.1, HM.out, HY.out.2.1, HW.out.1, HW.out.2⟩
end Go.Proofs.Ytendbipfmgnjkaa
