/- Texts of ours, laid one behind the other: HsB, DrHs, SpL, DrHt, DrHu, FndA. -/
import Derived.Test.YtoaifodmjkhiiaaPy10
import Derived.WalkKit
/- HsB: Marks in rows of hosts. -/
namespace Go.Proofs.Ytoaifodmjkhiiaa
set_option maxRecDepth 100000
open Go.RowKit BigFrame
attribute [local go_sem ↓] Go.wp_at_zero Go.wp_at_succ

/-- One cell of a host of such a row is turned. -/
theorem GW.cell3 {w : World} {g lo hi : Nat} {rs : List HoR} (h : GW HK w g rs lo hi) (j : Nat) (hj : j < rs.length) (f : Nat) (hf : f < 3) (v : Value) (r : HoR) (hc : hC r = (hC rs[j]).set f v) (hl : r.loc = rs[j].loc) (hi' : r.h.us = rs[j].h.us) : GW HK (w.setCell ⟨g, j * 3 + f, none⟩ v) g (rs.set j r) lo hi := by
  have hin : ∀ s t : HoR, s.h.us = t.h.us → HK.inn s = HK.inn t := fun s t e => by show unS s.h.us = unS t.h.us; rw [e]
  refine ⟨?_, h.glo, h.ghi, fun s hs => ?_, ?_⟩
  · have q := h.out.set (j * 3 + f) v (by rw [HK.cells_len]; show j * 3 + f < rs.length * 3; omega)
    have e : (HK.cells rs).set (j * 3 + f) v = HK.cells (rs.set j r) := by
      apply List.ext_getElem?
      intro i
      by_cases hi : i < rs.length * 3
      · obtain ⟨a, b, hb, rfl⟩ : ∃ a b, b < 3 ∧ i = a * 3 + b := ⟨i / 3, i % 3, by omega, by omega⟩
        have ha : a < rs.length := by omega
        have e2 : (HK.cells (rs.set j r))[a * 3 + b]? = (hC ((rs.set j r)[a]'(by rw [List.length_set]; exact ha)))[b]? := HK.cells_get (rs.set j r) a (by rw [List.length_set]; exact ha) b hb
        have e1 : (HK.cells rs)[a * 3 + b]? = (hC rs[a])[b]? := HK.cells_get rs a ha b hb
        rw [e2, List.getElem?_set, List.getElem_set]
        by_cases hja : j = a
        · subst hja
          rw [if_pos rfl, hc, List.getElem?_set, hC_len]
          by_cases hfb : f = b
          · subst hfb
            rw [if_pos rfl, if_pos rfl, HK.cells_len, if_pos (by show j * 3 + f < rs.length * 3; omega), if_pos hf]
          · rw [if_neg (by omega), if_neg hfb, e1]
        · rw [if_neg (by omega), if_neg hja, e1]
      · have l1 : (HK.cells rs).length = rs.length * 3 := HK.cells_len rs
        have l2 : (HK.cells (rs.set j r)).length = rs.length * 3 := by rw [HK.cells_len, List.length_set]; rfl
        rw [List.getElem?_eq_none (by rw [List.length_set, l1]; omega), List.getElem?_eq_none (by rw [l2]; omega)]
    rw [e] at q
    exact q
  · rcases List.mem_or_eq_of_mem_set hs with q | rfl
    · rcases h.rows s q with e | ⟨b, e, q1, q2, q3, q4⟩
      · exact .inl e
      · exact .inr ⟨b, e, q1, q2, q3, WCells.turned q4 (Turned.of_grown (gb_set' w g (j * 3 + f) v) (Nat.le_refl _) (Nat.lt_succ_self _)) (by omega)⟩
    · rcases h.rows rs[j] (List.getElem_mem hj) with e | ⟨b, e, q1, q2, q3, q4⟩
      · exact .inl ((hin _ _ hi').trans e)
      · exact .inr ⟨b, hl.trans e, q1, q2, q3, by rw [hin _ _ hi']; exact WCells.turned q4 (Turned.of_grown (gb_set' w g (j * 3 + f) v) (Nat.le_refl _) (Nat.lt_succ_self _)) (by omega)⟩
  · refine List.pairwise_iff_getElem.2 fun a b ha hb hab h1 h2 => ?_
    rw [List.length_set] at ha hb
    have q := List.pairwise_iff_getElem.1 h.apart a b ha hb hab
    have same : ∀ c (hcl : c < rs.length), HK.inn ((rs.set j r)[c]'(by rw [List.length_set]; exact hcl)) = HK.inn rs[c] ∧ HK.loc ((rs.set j r)[c]'(by rw [List.length_set]; exact hcl)) = HK.loc rs[c] := fun c hcl => by
      rw [List.getElem_set]
      split
      · rename_i e; subst e; exact ⟨hin _ _ hi', hl⟩
      · exact ⟨rfl, rfl⟩
    rw [(same a ha).1] at h1
    rw [(same b hb).1] at h2
    rw [(same a ha).2, (same b hb).2]
    exact q h1 h2
/-- The units of a host of such a row are turned, as many as there were. -/
theorem GW.units {w w' : World} {g lo hi b : Nat} {rs : List HoR} (h : GW HK w g rs lo hi) (j : Nat) (hj : j < rs.length) (us : List UnM) (hlen : us.length = rs[j].h.us.length) (hne : 0 < us.length)
    (hb : rs[j].loc = some ⟨b, 0, none⟩) (hbg : b ≠ g) (h1 : lo ≤ b) (h2 : b < hi) (hg : w.grownBy w' (some b)) (hw : WCells w' b (unS us)) :
    GW HK w' g (rs.set j ⟨⟨rs[j].h.id, rs[j].h.up, us⟩, rs[j].loc, rs[j].cap⟩) lo hi := by
  have t : Turned w w' b (b + 1) := Turned.of_grown hg (Nat.le_refl _) (Nat.lt_succ_self _)
  have hinn : ∀ r : HoR, 0 < r.h.us.length → HK.inn r ≠ [] := fun r hr e => by
    have := congrArg List.length (show unS r.h.us = [] from e)
    rw [unS_len] at this
    simp at this
    omega
  have hsame : ∀ c (hc : c < rs.length), c ≠ j → (rs.set j (⟨⟨rs[j].h.id, rs[j].h.up, us⟩, rs[j].loc, rs[j].cap⟩ : HoR))[c]'(by rw [List.length_set]; exact hc) = rs[c] := fun c hc hcj => by rw [List.getElem_set_ne (Ne.symm hcj)]
  have hap : ∀ c (hc : c < rs.length), c ≠ j → HK.inn rs[c] ≠ [] → rs[c].loc ≠ rs[j].loc := fun c hc hcj h3 => by
    have hj0 : HK.inn rs[j] ≠ [] := hinn _ (by omega)
    rcases Nat.lt_or_gt_of_ne hcj with e | e
    · exact List.pairwise_iff_getElem.1 h.apart c j hc hj e h3 hj0
    · exact (List.pairwise_iff_getElem.1 h.apart j c hj hc e hj0 h3).symm
  refine ⟨?_, h.glo, h.ghi, fun s hs => ?_, ?_⟩
  · have e : HK.cells (rs.set j ⟨⟨rs[j].h.id, rs[j].h.up, us⟩, rs[j].loc, rs[j].cap⟩) = HK.cells rs := by
      apply List.ext_getElem?
      intro i
      by_cases hi : i < rs.length * 3
      · obtain ⟨a, c, hc, rfl⟩ : ∃ a c, c < 3 ∧ i = a * 3 + c := ⟨i / 3, i % 3, by omega, by omega⟩
        have ha : a < rs.length := by omega
        have e2 : (HK.cells (rs.set j (⟨⟨rs[j].h.id, rs[j].h.up, us⟩, rs[j].loc, rs[j].cap⟩ : HoR)))[a * 3 + c]? = (hC ((rs.set j (⟨⟨rs[j].h.id, rs[j].h.up, us⟩, rs[j].loc, rs[j].cap⟩ : HoR))[a]'(by rw [List.length_set]; exact ha)))[c]? := HK.cells_get _ a (by rw [List.length_set]; exact ha) c hc
        have e1 : (HK.cells rs)[a * 3 + c]? = (hC rs[a])[c]? := HK.cells_get rs a ha c hc
        rw [e2, e1, List.getElem_set]
        split
        · rename_i e; subst e; unfold hC; dsimp only; rw [hlen]
        · rfl
      · have l1 : (HK.cells rs).length = rs.length * 3 := HK.cells_len rs
        have l2 : (HK.cells (rs.set j (⟨⟨rs[j].h.id, rs[j].h.up, us⟩, rs[j].loc, rs[j].cap⟩ : HoR))).length = rs.length * 3 := by rw [HK.cells_len, List.length_set]; rfl
        rw [List.getElem?_eq_none (by rw [l2]; omega), List.getElem?_eq_none (by rw [l1]; omega)]
    rw [e]
    exact h.out.turned t (by omega)
  · obtain ⟨c, hc, rfl⟩ := List.getElem_of_mem hs
    have hc' : c < rs.length := by rw [List.length_set] at hc; exact hc
    by_cases hcj : c = j
    · subst hcj
      rw [List.getElem_set_self]
      exact .inr ⟨b, hb, h1, h2, hbg, hw⟩
    · rw [hsame c hc' hcj]
      rcases h.rows rs[c] (List.getElem_mem hc') with e | ⟨q, e, q1, q2, q3, q4⟩
      · exact .inl e
      · by_cases hq : HK.inn rs[c] = []
        · exact .inl hq
        · have hqb : q ≠ b := fun e2 => hap c hc' hcj hq (by
            have e3 : rs[c].loc = some ⟨q, 0, none⟩ := e
            rw [e3, hb, e2])
          exact .inr ⟨q, e, q1, q2, q3, q4.turned t (by omega)⟩
  · refine List.pairwise_iff_getElem.2 fun c d hc9 hd9 hcd h3 h4 => ?_
    have hc : c < rs.length := by rw [List.length_set] at hc9; exact hc9
    have hd : d < rs.length := by rw [List.length_set] at hd9; exact hd9
    have loc : ∀ z (hz : z < rs.length), HK.loc ((rs.set j (⟨⟨rs[j].h.id, rs[j].h.up, us⟩, rs[j].loc, rs[j].cap⟩ : HoR))[z]'(by rw [List.length_set]; exact hz)) = rs[z].loc := fun z hz => by
      rw [List.getElem_set]
      split
      · rename_i e; subst e; rfl
      · rfl
    rw [loc c hc, loc d hd]
    by_cases ec : c = j
    · subst ec
      rw [hsame d hd (by omega)] at h4
      exact (hap d hd (by omega) h4).symm
    · rw [hsame c hc ec] at h3
      by_cases ed : d = j
      · subst ed
        exact hap c hc ec h3
      · rw [hsame d hd ed] at h4
        exact List.pairwise_iff_getElem.1 h.apart c d hc hd hcd h3 h4
theorem mod3 (c : Nat) : ((c : Int).tmod 3 == 0) = (c % 3 == 0) := by
  have : (c : Int).tmod 3 = ((c % 3 : Nat) : Int) := by
    rw [Int.tmod_eq_emod_of_nonneg (by omega)]
    omega
  rw [this]
  cases h : c % 3 == 0 with
  | true => simp at h ⊢; omega
  | false => simp at h ⊢; omega
set_option maxRecDepth 100000 in
set_option maxHeartbeats 4000000 in
theorem markHostS_all (g : Nat) (rs : List HoR) (k9 ca lo hi : Nat) (w : World) (ha : GW HK w g rs lo hi) (hcp : ∀ r ∈ rs, r.h.us.length ≤ r.cap) (hk : 0 < k9) (hn : endH k9 (hms rs) ≤ 1000000000) :
    Calls Try.prog 17 #[.slice (some ⟨g, 0, none⟩) rs.length ca, .int .i64 k9] w fun e w' => e = .returned (.int .i64 (endH k9 (hms rs) : Nat)) ∧ ∃ ys : List HoR, ys.length = rs.length ∧ hms ys = marksH k9 (hms rs) ∧ (∀ r ∈ ys, r.h.us.length ≤ r.cap) ∧ GW HK w' g ys lo hi ∧ Turned w w' lo hi := by
  obtain ⟨n, hnn⟩ : ∃ n, n = rs.length := ⟨_, rfl⟩
  have HN := Shut.mk hnn
  obtain ⟨hs, hhs⟩ : ∃ q, q = hms rs := ⟨_, rfl⟩
  rw [← hnn, ← hhs]
  rw [← hhs] at hn
  have HHS := Shut.mk hhs
  have HA := Shut.mk ha
  have HCP := Shut.mk hcp
  have HL : Shut (hs.length = n) := ⟨by rw [hhs, hms_len, hnn]⟩
  have HEN : Shut (∀ j, endH k9 (hs.take j) ≤ endH k9 hs ∧ k9 ≤ endH k9 (hs.take j)) := ⟨fun j => by
    rw [endH_eq, endH_eq]
    have e1 : hs.length = (hs.take j).length + (hs.drop j).length := by rw [← List.length_append, List.take_append_drop]
    have e2 : (hs.map fun h => h.us.length).sum = ((hs.take j).map fun h => h.us.length).sum + ((hs.drop j).map fun h => h.us.length).sum := by rw [← List.sum_append, ← List.map_append, List.take_append_drop]
    omega⟩
  have hl : n ≤ 1000000000 := by have := endH_eq k9 hs; have := HL.out; omega
  clear ha hcp hnn hhs
  go_enter Try.func17, Try.ntmps17
  go_wp2_with fail
  go_loopw [1, 5] (fun v i wr => ∃ (j c : Nat) (ys : List HoR), i = .int .i64 j ∧ v = .int .i64 c ∧ j ≤ n ∧ Shut (c = endH k9 (hs.take j)) ∧ Shut (ys.length = n ∧ (∀ r ∈ ys, r.h.us.length ≤ r.cap) ∧ (∀ t (ht : t < n) (hy : t < ys.length) (hm : t < (marksH k9 hs).length), t < j → ys[t].h = (marksH k9 hs)[t]) ∧ (∀ t, j ≤ t → ys[t]? = rs[t]?)) ∧ Shut (GW HK wr g ys lo hi ∧ Turned w wr lo hi)) (fun _ i _ => n - (intOf i).toNat)
  case atStart => exact ⟨0, k9, rs, rfl, rfl, Nat.zero_le _, ⟨by simp [endH]⟩, ⟨HN.out.symm, HCP.out, fun t _ _ _ ht => by omega, fun t _ => rfl⟩, ⟨HA.out, Turned.refl _ _ _⟩⟩
  case round =>
    obtain ⟨j, c, ys, rfl, rfl, hj, HC, HY, HW⟩ := hrel
    by_cases hlt : j < n
    · have j0 : (0 : Int) ≤ (j : Int) := by omega
      have j1 : (j : Int) < (n : Int) := by omega
      have hjy : j < ys.length := by have := HY.out.1; omega
      have hjr : j < rs.length := by have := HN.out; omega
      have hyr : ys[j] = rs[j] := by
        have q := HY.out.2.2.2 j (Nat.le_refl _)
        rw [List.getElem?_eq_getElem hjy, List.getElem?_eq_getElem hjr] at q
        exact Option.some.inj q
      have hjs : j < hs.length := by have := HL.out; omega
      have hsj : hs[j] = ys[j].h := by rw [hyr]; simp [HHS.out, hms]
      have hcb : c + 2 + 4 * ys[j].h.us.length ≤ 1000000000 := by
        have q1 := HEN.out (j + 1)
        rw [endH_take k9 hs j hjs, ← HC.out, hsj] at q1
        omega
      have HNX : Shut (c + 2 + 4 * ys[j].h.us.length = endH k9 (hs.take (j + 1))) := ⟨by rw [endH_take k9 hs j hjs, ← HC.out, hsj]⟩
      have hc0 : 0 < c := by have := (HEN.out j).2; have := HC.out; omega
      obtain ⟨y, hy⟩ : ∃ y, y = ys[j] := ⟨_, rfl⟩
      have hw0 := HW.out.1.out
      obtain ⟨c0, z0⟩ := hw0.2 (j * 3) _ (HK.cells_get ys j hjy 0 (by decide))
      obtain ⟨c1, z1⟩ := hw0.2 (j * 3 + 1) _ (HK.cells_get ys j hjy 1 (by decide))
      obtain ⟨c2, z2⟩ := hw0.2 (j * 3 + 2) _ (HK.cells_get ys j hjy 2 (by decide))
      rw [← hy] at hcb HNX
      obtain ⟨q, hq⟩ : ∃ q, q = ((c + 1) % 3 == 0) := ⟨_, rfl⟩
      have hq2 : (((c : Int) + 1) % 3 == 0) = q := by
        rw [hq, ← mod3, Int.tmod_eq_emod_of_nonneg (by omega)]
        push_cast
        rfl
      have HG1 : Shut (GW HK (wr.setCell ⟨g, j * 3, none⟩ (.int .i64 c)) g (ys.set j ⟨⟨c, y.h.up, y.h.us⟩, y.loc, y.cap⟩) lo hi) := ⟨by
        have k := HW.out.1.cell3 j hjy 0 (by decide) (.int .i64 c) ⟨⟨c, y.h.up, y.h.us⟩, y.loc, y.cap⟩ (by rw [hy]; rfl) (by rw [hy]) (by rw [hy])
        rw [Nat.add_zero] at k
        exact k⟩
      have HG2 : Shut (GW HK ((wr.setCell ⟨g, j * 3, none⟩ (.int .i64 c)).setCell ⟨g, j * 3 + 1, none⟩ (.bool q)) g (ys.set j ⟨⟨c, q, y.h.us⟩, y.loc, y.cap⟩) lo hi) := ⟨by
        have k := HG1.out.cell3 j (by rw [List.length_set]; exact hjy) 1 (by decide) (.bool q) ⟨⟨c, q, y.h.us⟩, y.loc, y.cap⟩ (by rw [List.getElem_set_self]; rfl) (by rw [List.getElem_set_self]) (by rw [List.getElem_set_self])
        rw [List.set_set] at k
        exact k⟩
      have HT2 : Shut (Turned w ((wr.setCell ⟨g, j * 3, none⟩ (.int .i64 c)).setCell ⟨g, j * 3 + 1, none⟩ (.bool q)) lo hi) := ⟨(HW.out.2.trans (Turned.of_grown (gb_set' _ g _ _) HW.out.1.glo HW.out.1.ghi)).trans (Turned.of_grown (gb_set' _ g _ _) HW.out.1.glo HW.out.1.ghi)⟩
      have HMK : Shut (∀ m, m = y.h.us.length → (⟨(c : Nat), q, marksU (c + 2) m⟩ : HM) = (marksH k9 hs)[j]'(by rw [marksH_len]; exact hjs)) := ⟨fun m hm => by rw [marksH_at k9 hs j hjs, ← HC.out, hq, hm, hsj, ← hy]⟩
      have HCY : Shut (y.h.us.length ≤ y.cap) := ⟨by rw [hy]; exact HY.out.2.1 _ (List.getElem_mem hjy)⟩
      have HDONE : Shut (∀ (m : Nat) (r : HoR), m = y.h.us.length → r.h = ⟨(c : Nat), q, marksU (c + 2) m⟩ → r.cap = y.cap → ((ys.set j r).length = n ∧ (∀ s ∈ ys.set j r, s.h.us.length ≤ s.cap) ∧ (∀ t (ht : t < n) (h1 : t < (ys.set j r).length) (hm : t < (marksH k9 hs).length), t < j + 1 → (ys.set j r)[t].h = (marksH k9 hs)[t]) ∧ (∀ t, j + 1 ≤ t → (ys.set j r)[t]? = rs[t]?))) := ⟨fun m r hm hr hrc => ⟨by rw [List.length_set]; exact HY.out.1, fun s hs9 => by
          rcases List.mem_or_eq_of_mem_set hs9 with e | rfl
          · exact HY.out.2.1 s e
          · rw [hr, hrc]; show (marksU (c + 2) m).length ≤ y.cap; rw [marksU_len, hm]; exact HCY.out, fun t ht h1 h2 htj => by
          rw [List.length_set] at h1
          rw [List.getElem_set]
          split
          · rename_i e; subst e; rw [hr]; exact HMK.out m hm
          · exact HY.out.2.2.1 t ht h1 h2 (by omega), fun t ht => by rw [List.getElem?_set_ne (by omega)]; exact HY.out.2.2.2 t (by omega)⟩⟩
      obtain ⟨m, hm⟩ : ∃ m, m = y.h.us.length := ⟨_, rfl⟩
      have at9 : ∀ (r : HoR) (W : World), GW HK W g (ys.set j r) lo hi → ∀ f v, f < 3 → (hC r)[f]? = some v → W.cell? ⟨g, j * 3 + f, none⟩ = some v ∧ W.frozen? ⟨g, j * 3 + f, none⟩ = false := fun r W h f v hf hv => h.out.2 (j * 3 + f) v (by
        have k := HK.cells_get (ys.set j r) j (by rw [List.length_set]; exact hjy) f hf
        rw [List.getElem_set_self] at k
        exact k.trans hv)
      obtain ⟨a1, b1⟩ := at9 _ _ HG1.out 1 _ (by omega) rfl
      obtain ⟨a2, b2⟩ := at9 _ _ HG2.out 2 _ (by omega) rfl
      have HROW : Shut (y.h.us = [] ∨ ∃ b, y.loc = some ⟨b, 0, none⟩ ∧ lo ≤ b ∧ b < hi ∧ b ≠ g ∧ WCells ((wr.setCell ⟨g, j * 3, none⟩ (.int .i64 c)).setCell ⟨g, j * 3 + 1, none⟩ (.bool q)) b (unS y.h.us)) := ⟨by
        rcases HG2.out.rows ⟨⟨c, q, y.h.us⟩, y.loc, y.cap⟩ (List.mem_set hjy _) with e | h
        · left
          have e1 : unS y.h.us = [] := e
          have e3 := congrArg List.length e1
          rw [unS_len] at e3
          exact List.eq_nil_of_length_eq_zero (by simp at e3; omega)
        · exact .inr h⟩
      have HCW : Shut (((c + 2 : Nat) : Int) = (c : Int) + 1 + 1) := ⟨by omega⟩
      rw [← hm] at a2 hcb HNX
      have HM9 := Shut.mk hm
      have HSS : Shut (∀ us9, (ys.set j (⟨⟨c, q, y.h.us⟩, y.loc, y.cap⟩ : HoR)).set j ⟨⟨c, q, us9⟩, y.loc, y.cap⟩ = ys.set j ⟨⟨c, q, us9⟩, y.loc, y.cap⟩) := ⟨fun us9 => by rw [List.set_set]⟩
      have HGJ : Shut ((ys.set j (⟨⟨c, q, y.h.us⟩, y.loc, y.cap⟩ : HoR))[j]'(by rw [List.length_set]; exact hjy) = ⟨⟨c, q, y.h.us⟩, y.loc, y.cap⟩) := ⟨List.getElem_set_self _⟩
      have hlj : j < (ys.set j (⟨⟨c, q, y.h.us⟩, y.loc, y.cap⟩ : HoR)).length := by rw [List.length_set]; exact hjy
      clear hw0 c1 z1 c2 z2 at9 hq hm hyr hsj hy
      by_cases hm0 : m = 0
      · have HZ := Shut.mk (fun W => markUnitS_zero y.loc (c + 2) y.cap W)
        simp only [HCW.out] at HZ
        have HNIL : Shut (y.h.us = []) := ⟨List.eq_nil_of_length_eq_zero (by have := HM9.out; omega)⟩
        subst hm0
        go_wp2_with (go_at_call 32; refine (HZ.out _).mono ?_; rintro e w3 ⟨rfl, hw3⟩; subst hw3)
        go_roundw
        case rel => exact ⟨j + 1, c + 2, ys.set j ⟨⟨c, q, []⟩, y.loc, y.cap⟩, by go_num, congrArg (Value.int .i64) (by omega), by omega, ⟨by have := HNX.out; omega⟩, ⟨HDONE.out 0 _ HM9.out rfl rfl⟩, ⟨by have k := HG2.out; rw [HNIL.out] at k; exact k, HT2.out⟩⟩
        case measure => simp [intOf]; omega
      · obtain ⟨b, hb, hb1, hb2, hbg, hbw⟩ : ∃ b, y.loc = some ⟨b, 0, none⟩ ∧ lo ≤ b ∧ b < hi ∧ b ≠ g ∧ WCells ((wr.setCell ⟨g, j * 3, none⟩ (.int .i64 c)).setCell ⟨g, j * 3 + 1, none⟩ (.bool q)) b (unS y.h.us) := by
          rcases HROW.out with e | h
          · exact absurd (by have := HM9.out; rw [e] at this; exact this) hm0
          · exact h
        have HMU := Shut.mk (markUnitS_all b y.h.us (c + 2) y.cap _ hbw (by omega) (by have := HM9.out; omega) HCY.out)
        rw [← HM9.out, ← hb, HCW.out] at HMU
        have HBB := Shut.mk (And.intro hb (And.intro hb1 (And.intro hb2 hbg)))
        clear hbw hb hb1 hb2 hbg
        go_wp2_with (go_at_call 32; refine HMU.out.mono ?_; rintro e w3 ⟨rfl, hw3, hg3⟩; have HW3 := Shut.mk (And.intro hw3 hg3); clear hw3 hg3)
        have HG3 : Shut (GW HK w3 g (ys.set j ⟨⟨c, q, marksU (c + 2) m⟩, y.loc, y.cap⟩) lo hi ∧ Turned w w3 lo hi) := ⟨by
          have k := HG2.out.units j hlj (marksU (c + 2) m) (by rw [marksU_len, HGJ.out]; exact HM9.out) (by rw [marksU_len]; omega) (b := b) (by rw [HGJ.out]; exact HBB.out.1) HBB.out.2.2.2 HBB.out.2.1 HBB.out.2.2.1 HW3.out.2 HW3.out.1
          rw [HGJ.out] at k
          dsimp only at k
          rw [HSS.out] at k
          exact ⟨k, HT2.out.trans (Turned.of_grown HW3.out.2 HBB.out.2.1 HBB.out.2.2.1)⟩⟩
        go_roundw
        case rel => exact ⟨j + 1, c + 2 + 4 * m, ys.set j ⟨⟨c, q, marksU (c + 2) m⟩, y.loc, y.cap⟩, by go_num, rfl, by omega, HNX, ⟨HDONE.out m _ HM9.out rfl rfl⟩, HG3⟩
        case measure => simp [intOf]; omega
    · obtain rfl : n = j := by omega
      have HE : Shut (c = endH k9 hs) := ⟨by rw [HC.out, List.take_of_length_le (by rw [HL.out]; exact Nat.le_refl _)]⟩
      have HM : Shut (hms ys = marksH k9 hs) := ⟨by
        apply List.ext_getElem
        · rw [hms_len, marksH_len, HL.out, HY.out.1]
        · intro t h1 h2
          rw [hms_len] at h1
          have q := HY.out.2.2.1 t (by have := HY.out.1; omega) h1 h2 (by have := HY.out.1; omega)
          simp only [hms, List.getElem_map]
          exact q⟩
      go_wp2_with fail
      go_ret
      exact ⟨by rw [HE.out]; rfl, ys, HY.out.1, HM.out, HY.out.2.1, HW.out.1, HW.out.2⟩
end Go.Proofs.Ytoaifodmjkhiiaa
/- DrHs: Hosts that are drawn: beside a cursor that turns, in memory of their own. -/
namespace Go.Proofs.Ytoaifodmjkhiiaa
set_option maxRecDepth 100000
open Go.RowKit BigFrame

/-- A row that was made behind the others takes a host's place. -/
theorem GW.host2 {w : World} {g lo hi hi2 : Nat} {rs : List HoR} (h : GW HK w g rs lo hi) (j : Nat) (hj : j < rs.length) (H : HM) (a : Option Addr) (cap : Nat) (hF : FRw w a (unS H.us) hi hi2) (hlo : lo ≤ hi) (hhi : hi ≤ hi2) :
    GW HK (setW w g (j * 3) (hC ⟨H, a, cap⟩)) g (rs.set j ⟨H, a, cap⟩) lo hi2 := by
  have k := h.wide (Nat.le_refl _) hhi
  refine k.put j hj ⟨H, a, cap⟩ ?_ fun s hs h1 h2 e => ?_
  · rcases hF with ⟨_, e⟩ | ⟨q, e, q1, q2, q3⟩
    · exact .inl e
    · exact .inr ⟨q, e, by omega, q2, by have := h.ghi; omega, q3⟩
  · rcases h.rows s hs with q | ⟨b, e1, q1, q2, q3, q4⟩
    · exact h1 q
    · rcases hF with ⟨_, q⟩ | ⟨q, e2, p1, p2, p3⟩
      · exact h2 q
      · have : some (⟨b, 0, none⟩ : Addr) = some ⟨q, 0, none⟩ := by rw [← e1, ← e2]; exact e
        simp only [Option.some.injEq, Addr.mk.injEq, and_true] at this
        omega
theorem GW.cell3n {w : World} {g lo hi : Nat} {rs : List HoR} (h : GW HK w g rs lo hi) (j : Nat) (hj : j < rs.length) (a : Option Addr) (cap : Nat) : GW HK (w.setCell ⟨g, j * 3 + 2, none⟩ (.slice a 0 cap)) g (rs.set j ⟨⟨rs[j].h.id, rs[j].h.up, []⟩, a, cap⟩) lo hi := by
  have hc : hC ⟨⟨rs[j].h.id, rs[j].h.up, []⟩, a, cap⟩ = (hC rs[j]).set 2 (.slice a 0 cap) := rfl
  have hnone : HK.inn ⟨⟨rs[j].h.id, rs[j].h.up, []⟩, a, cap⟩ = [] := rfl
  generalize hr : (⟨⟨rs[j].h.id, rs[j].h.up, []⟩, a, cap⟩ : HoR) = r at *
  refine ⟨?_, h.glo, h.ghi, fun s hs => ?_, ?_⟩
  · have q := h.out.set (j * 3 + 2) (.slice a 0 cap) (by rw [HK.cells_len]; show j * 3 + 2 < rs.length * 3; omega)
    have e : (HK.cells rs).set (j * 3 + 2) (.slice a 0 cap) = HK.cells (rs.set j r) := by
      apply List.ext_getElem?
      intro i
      by_cases hi : i < rs.length * 3
      · obtain ⟨x, b, hb, rfl⟩ : ∃ x b, b < 3 ∧ i = x * 3 + b := ⟨i / 3, i % 3, by omega, by omega⟩
        have ha : x < rs.length := by omega
        have e2 : (HK.cells (rs.set j r))[x * 3 + b]? = (hC ((rs.set j r)[x]'(by rw [List.length_set]; exact ha)))[b]? := HK.cells_get (rs.set j r) x (by rw [List.length_set]; exact ha) b hb
        have e1 : (HK.cells rs)[x * 3 + b]? = (hC rs[x])[b]? := HK.cells_get rs x ha b hb
        rw [e2, List.getElem?_set, List.getElem_set]
        by_cases hja : j = x
        · subst hja
          rw [if_pos rfl, hc, List.getElem?_set, hC_len]
          by_cases hfb : 2 = b
          · subst hfb
            rw [if_pos rfl, if_pos rfl, HK.cells_len, if_pos (by show j * 3 + 2 < rs.length * 3; omega), if_pos (by decide)]
          · rw [if_neg (by omega), if_neg hfb, e1]
        · rw [if_neg (by omega), if_neg hja, e1]
      · have l1 : (HK.cells rs).length = rs.length * 3 := HK.cells_len rs
        have l2 : (HK.cells (rs.set j r)).length = rs.length * 3 := by rw [HK.cells_len, List.length_set]; rfl
        rw [List.getElem?_eq_none (by rw [List.length_set, l1]; omega), List.getElem?_eq_none (by rw [l2]; omega)]
    rw [e] at q
    exact q
  · rcases List.mem_or_eq_of_mem_set hs with q | rfl
    · rcases h.rows s q with e | ⟨b, e, q1, q2, q3, q4⟩
      · exact .inl e
      · exact .inr ⟨b, e, q1, q2, q3, WCells.turned q4 (Turned.of_grown (gb_set' w g (j * 3 + 2) (.slice a 0 cap)) (Nat.le_refl _) (Nat.lt_succ_self _)) (by omega)⟩
    · exact .inl hnone
  · refine List.pairwise_iff_getElem.2 fun x y hx hy hxy h1 h2 => ?_
    rw [List.length_set] at hx hy
    rw [List.getElem_set] at h1 h2 ⊢
    rw [List.getElem_set]
    split at h1
    · exact absurd hnone h1
    · split at h2
      · exact absurd hnone h2
      · rename_i n1 n2
        rw [if_neg n1, if_neg n2]
        exact List.pairwise_iff_getElem.1 h.apart x y hx hy hxy h1 h2
theorem Cur.grow9 {w w' : World} {g B len cap : Nat} {a : Option Addr} (h : Cur w g B a len cap) {row : Option Nat} (hg : w.grownBy w' row) (hr : ∀ q, row = some q → q ≠ g ∧ B ≤ q) : Cur w' g B a len cap := by
  obtain ⟨h1, h2, h3, h4, ⟨i, h5, h5'⟩, ⟨k, h6⟩, h7⟩ := h
  have hb : w'.heap[g]? = w.heap[g]? := hg.block g h2 fun e => (hr g e.symm).1 rfl
  refine ⟨h1, Nat.lt_of_lt_of_le h2 hg.size, ⟨h3.1, fun hp' => ?_⟩, (World.cell?_of_block (a := ⟨g, 0, none⟩) hb).trans h4, ⟨i, (World.cell?_of_block (a := ⟨g, 1, none⟩) hb).trans h5, h5'⟩, ⟨k, (World.cell?_of_block (a := ⟨g, 2, none⟩) hb).trans h6⟩, fun j hj => (World.frozen?_of_block (a := ⟨g, j, none⟩) hb).trans (h7 j hj)⟩
  obtain ⟨b, off, e, hbB, hx⟩ := h3.2 hp'
  have hbb : w'.heap[b]? = w.heap[b]? := hg.block b (by omega) fun e => by have := (hr b e.symm).2; omega
  exact ⟨b, off, e, hbB, fun j hj => (hx j hj).imp fun x hx => ⟨(World.cell?_of_block (a := ⟨b, off + j, none⟩) hbb).trans hx.1, hx.2⟩⟩
/-- Good hosts beside a cursor. -/
structure DH (w0 W : World) (g B : Nat) (a : Option Addr) (len cap : Nat) (S : List Str) (base hi gH : Nat) (gs : List HoR) (m : Nat) : Prop where
  sd : SD w0 W g B a len cap S
  gw : GW HK W gH gs base hi
  caps : ∀ r ∈ gs, r.h.us.length ≤ r.cap
  good : GH (hms gs) m
  glt : g < base
  slt : ∀ s ∈ S, s.hi ≤ base
  blt : w0.heap.size ≤ base
  hlt : hi ≤ W.heap.size
  bhi : base ≤ hi
section
variable {w0 W W' : World} {g B len cap base hi gH m : Nat} {a : Option Addr} {S : List Str} {gs : List HoR}
theorem SD.other (h : SD w0 W g B a len cap S) {q : Nat} (hg : W.grownBy W' (some q)) (h1 : g < q) (h2 : ∀ s ∈ S, s.hi ≤ q) (h3 : w0.heap.size ≤ q) : SD w0 W' g B a len cap S :=
  ⟨h.sl.grown hg (fun k e => by cases e; exact ⟨h3, fun s hs => .inl (h2 s hs)⟩), h.cur.grow9 hg (fun k e => by cases e; exact ⟨by omega, Nat.le_trans h.hB h3⟩), h.far, h.hg, h.hB⟩
theorem DH.draw (h : DH w0 W g B a len cap S base hi gH gs m) (hd : Dr g B a len cap W W') : DH w0 W' g B a len cap S base hi gH gs m :=
  ⟨h.sd.draw hd, h.gw.turned (Turned.of_grown hd.1 (Nat.le_refl g) (Nat.lt_succ_self g)) (.inr h.glt), h.caps, h.good, h.glt, h.slt, h.blt, Nat.le_trans h.hlt hd.1.size, h.bhi⟩
theorem DH.below (h : DH w0 W g B a len cap S base hi gH gs m) (hb : Below W.heap.size W W') : DH w0 W' g B a len cap S base hi gH gs m :=
  h.draw (h.sd.dr_below hb)
theorem DH.row (h : DH w0 W g B a len cap S base hi gH gs m) : HsRow W (some ⟨gH, 0, none⟩) gs := (show HsW W (some ⟨gH, 0, none⟩) gs base hi from ⟨h.caps, .inr ⟨gH, rfl, h.gw⟩⟩).row
theorem DH.mono {m' : Nat} (h : DH w0 W g B a len cap S base hi gH gs m) (hm : m ≤ m') : DH w0 W g B a len cap S base hi gH gs m' := ⟨h.sd, h.gw, h.caps, h.good.mono hm, h.glt, h.slt, h.blt, h.hlt, h.bhi⟩
theorem DH.seven (h : DH w0 W g B a len cap S base hi gH gs m) : gs.length = 7 := by have := h.good.1; rw [hms_len] at this; exact this
theorem DH.at (h : DH w0 W g B a len cap S base hi gH gs m) (k : Nat) (hk : k < gs.length) : gs[k].h.id = (k : Int) + 1 ∧ HGood gs[k].h.id gs[k].h.us m := by
  have q := h.good.2 k (by rw [hms_len]; exact hk)
  simpa [hms] using q
theorem DH.set (h : DH w0 W g B a len cap S base hi gH gs m) (k : Nat) (hk : k < gs.length) (r : HoR) (hi' : Nat) (hw : GW HK W' gH (gs.set k r) base hi') (hg : W.grownBy W' (some gH)) (hc : r.h.us.length ≤ r.cap) (hid : r.h.id = gs[k].h.id) (hgd : HGood r.h.id r.h.us m) (h1 : hi' ≤ W'.heap.size) : DH w0 W' g B a len cap S base hi' gH (gs.set k r) m := by
  have l := h.gw.glo
  refine ⟨h.sd.other hg (by have := h.glt; omega) (fun s hs => Nat.le_trans (h.slt s hs) l) (Nat.le_trans h.blt l), hw, fun x hx => ?_, ?_, h.glt, h.slt, h.blt, h1, by have := hw.glo; have := hw.ghi; omega⟩
  · rcases List.mem_or_eq_of_mem_set hx with q | rfl
    · exact h.caps x q
    · exact hc
  · have e : hms (gs.set k r) = (hms gs).set k r.h := by unfold hms; rw [List.map_set]
    rw [e]
    exact h.good.set k r.h (Nat.le_refl _) (by rw [hid]; exact (h.at k hk).1) hgd
theorem DH.up (h : DH w0 W g B a len cap S base hi gH gs m) (k : Nat) (hk : k < gs.length) (b : Bool) : DH w0 (W.setCell ⟨gH, k * 3 + 1, none⟩ (.bool b)) g B a len cap S base hi gH (gs.set k ⟨⟨gs[k].h.id, b, gs[k].h.us⟩, gs[k].loc, gs[k].cap⟩) m :=
  h.set k hk _ hi (h.gw.cell3 k hk 1 (by decide) (.bool b) _ rfl rfl rfl) (gb_set' W gH _ _) (show gs[k].h.us.length ≤ gs[k].cap from h.caps gs[k] (List.getElem_mem hk)) rfl (h.at k hk).2 (by simp [World.setCell]; exact h.hlt)
theorem DH.empty (h : DH w0 W g B a len cap S base hi gH gs m) (k : Nat) (hk : k < gs.length) (b : Option Addr) (c : Nat) : DH w0 (W.setCell ⟨gH, k * 3 + 2, none⟩ (.slice b 0 c)) g B a len cap S base hi gH (gs.set k ⟨⟨gs[k].h.id, gs[k].h.up, []⟩, b, c⟩) m :=
  h.set k hk _ hi (h.gw.cell3n k hk b c) (gb_set' W gH _ _) (Nat.zero_le _) rfl (good_none (h.at k hk).2) (by simp [World.setCell]; exact h.hlt)
theorem gb_setW (w : World) (g off : Nat) (vs : List Value) : w.grownBy (setW w g off vs) (some g) := by
  induction vs generalizing w off with
  | nil => exact gb_below (Below.refl _ _)
  | cons v vs ih => exact gb_two (gb_set' w g off v) (ih _ _)
theorem DH.host (h : DH w0 W g B a len cap S base hi gH gs m) (k : Nat) (hk : k < gs.length) (H : HM) (b : Option Addr) (c : Nat) (hi2 : Nat) (hF : FRw W b (unS H.us) hi hi2) (hh : hi ≤ hi2) (h2 : hi2 ≤ W.heap.size) (hc : H.us.length ≤ c) (hid : H.id = gs[k].h.id) (hgd : HGood H.id H.us m) :
    DH w0 (setW W gH (k * 3) (hC ⟨H, b, c⟩)) g B a len cap S base hi2 gH (gs.set k ⟨H, b, c⟩) m :=
  h.set k hk ⟨H, b, c⟩ hi2 (h.gw.host2 k hk H b c hF h.bhi hh) (gb_setW W gH _ _) hc hid hgd (by rw [setW_sz]; exact h2)
/-- Hosts that WriteGroup left take their place. -/
theorem DH.wrote {gH' m' : Nat} {gs' : List HoR} (h : DH w0 W g B a len cap S base hi gH gs m) (hw : WG W W' gH' gs' m') : DH w0 W' g B a len cap S base W'.heap.size gH' gs' m' :=
  ⟨h.sd.below hw.bel, hw.gw.wide (Nat.le_trans h.bhi h.hlt) (Nat.le_refl _), hw.caps, hw.good, h.glt, h.slt, h.blt, Nat.le_refl _, Nat.le_trans (Nat.le_trans h.bhi h.hlt) hw.bel.size⟩
/-- Hosts without units, one behind the other. -/
structure D1 (w0 W : World) (g B : Nat) (a : Option Addr) (len cap : Nat) (S : List Str) (base : Nat) (v : Value) (gs : List HoR) : Prop where
  sd : SD w0 W g B a len cap S
  own : W.ownsRow base 29 3 v gs.length (hS gs)
  bare : ∀ r ∈ gs, r.h.us = []
  ids : ∀ i (h : i < gs.length), gs[i].h.id = (i : Int) + 1
  glt : g < base
  slt : ∀ s ∈ S, s.hi ≤ base
  blt : w0.heap.size ≤ base
  size : base ≤ W.heap.size
theorem D1.draw {v : Value} (h : D1 w0 W g B a len cap S base v gs) (hd : Dr g B a len cap W W') : D1 w0 W' g B a len cap S base v gs :=
  ⟨h.sd.draw hd, h.own.kept hd.1 (by
    cases e : v.ownBlock with
    | none => exact .inl rfl
    | some q => exact .inr fun e2 => by have := (h.own.lt q e).1; have := h.glt; cases e2; omega), h.bare, h.ids, h.glt, h.slt, h.blt, Nat.le_trans h.size hd.1.size⟩
theorem D1.more {Wa : World} {v v' : Value} (h : D1 w0 W g B a len cap S base v gs) (hb : Below W.heap.size W Wa) (up : Bool) (ho : W'.ownsRow base 29 3 v' (gs.length + 1) (hS gs ++ hC ⟨⟨(gs.length : Int) + 1, up, []⟩, none, 0⟩)) (hg : Wa.grownBy W' v.ownBlock) : D1 w0 W' g B a len cap S base v' (gs ++ [⟨⟨(gs.length : Int) + 1, up, []⟩, none, 0⟩]) := by
  have k := h.draw (h.sd.dr_below hb)
  refine ⟨?_, ?_, fun r hr => ?_, fun i hi => ?_, h.glt, h.slt, h.blt, Nat.le_trans k.size hg.size⟩
  · cases e : v.ownBlock with
    | none => rw [e] at hg; exact k.sd.below ⟨hg.os, hg.tape, hg.output, hg.size, fun k hk => hg.block k hk (by simp)⟩
    | some q =>
      rw [e] at hg
      have l := (k.own.lt q e).1
      exact k.sd.other hg (by have := h.glt; omega) (fun s hs => Nat.le_trans (h.slt s hs) l) (Nat.le_trans h.blt l)
  · rw [List.length_append]
    have e : hS (gs ++ [⟨⟨(gs.length : Int) + 1, up, []⟩, none, 0⟩]) = hS gs ++ hC ⟨⟨(gs.length : Int) + 1, up, []⟩, none, 0⟩ := by show (gs ++ [_]).flatMap hC = _; rw [List.flatMap_append]; simp [hS, NK.cells, HK]
    rw [e]
    exact ho
  · rcases List.mem_append.1 hr with q | q
    · exact h.bare r q
    · rw [List.mem_singleton] at q; subst q; rfl
  · rw [List.length_append] at hi
    by_cases q : i < gs.length
    · rw [List.getElem_append_left q]; exact h.ids i q
    · have e : i = gs.length := by simp at hi; omega
      subst e
      simp
theorem D1.done {v : Value} (h : D1 w0 W g B a len cap S base v gs) (h7 : gs.length = 7) : ∃ gH c, v = .slice (some ⟨gH, 0, Option.none⟩) 7 c ∧ DH w0 W g B a len cap S base W.heap.size gH gs 0 := by
  rcases h.own.2 with ⟨e, h0⟩ | ⟨q, c, cur, e, hb, hg, hc, _⟩
  · omega
  · have hlt := (h.own.lt q (by rw [e]; rfl)).2
    have hw : WCells W q (hS gs) := by
      have k := h.own
      rw [e] at k
      exact own_wcells k
    have hin : ∀ r ∈ gs, HK.inn r = [] := fun r hr => by show unS r.h.us = []; rw [h.bare r hr]; rfl
    refine ⟨q, c, by rw [e, h7], h.sd, ⟨hw, hb, hlt, fun r hr => .inl (hin r hr), List.pairwise_iff_getElem.2 fun i j hi hj _ h1 => absurd (hin _ (List.getElem_mem hi)) h1⟩, fun r hr => by rw [h.bare r hr]; exact Nat.zero_le _, ⟨by rw [hms_len]; exact h7, fun i hi => ?_⟩, h.glt, h.slt, h.blt, Nat.le_refl _, h.size⟩
    rw [hms_len] at hi
    have e1 : (hms gs)[i]'(by rw [hms_len]; exact hi) = gs[i].h := by simp [hms]
    rw [e1, h.bare _ (List.getElem_mem hi)]
    refine ⟨h.ids i hi, ?_, Nat.zero_le _⟩
    rw [h.ids i hi]
    unfold hostOk inI
    simp [unitsOk]
    omega
end
end Go.Proofs.Ytoaifodmjkhiiaa
/- SpL: The model's Spoil (written by gen/mkspoil.py). -/
namespace Go.Proofs.Ytoaifodmjkhiiaa
set_option maxRecDepth 100000
open Go.RowKit BigFrame
attribute [local go_sem ↓] Go.wp_at_zero Go.wp_at_succ

theorem bits_one (x : UInt8) : bits .xor .u8 (x.toNat : Int) 1 = ((x ^^^ 1).toNat : Int) := by
  have h : ∀ y : Fin 256, bits .xor .u8 ((UInt8.ofNat y.val).toNat : Int) 1 = ((UInt8.ofNat y.val ^^^ 1).toNat : Int) := by decide +kernel
  have := h ⟨x.toNat, x.toNat_lt⟩
  simpa using this
theorem toList_none : (⟨#[]⟩ : ByteArray).toList = [] := by
  unfold ByteArray.toList ByteArray.toList.loop
  rfl
theorem set_same {α : Type} {Z : List α} {i : Nat} {v : α} (h : Z[i]? = some v) : Z.set i v = Z := by
  obtain ⟨hi, e⟩ := List.getElem?_eq_some_iff.1 h
  subst e
  exact List.set_getElem_self hi
theorem uns_text (us : List UnM) (k : Nat) (h : k < us.length) (T : ByteArray) : (unS us).set (k * 4 + 2) (.string T) = unS (us.set k ⟨us[k].group, us[k].index, T, us[k].sum⟩) := by
  have q := flat_setL unC_len us k h ⟨us[k].group, us[k].index, T, us[k].sum⟩
  have e0 : (unS us)[k * 4]? = some (.int .i64 us[k].group) := flat_get unC_len us k h 0 (by omega)
  have e1 : (unS us)[k * 4 + 1]? = some (.int .i64 us[k].index) := flat_get unC_len us k h 1 (by omega)
  have e3 : (unS us)[k * 4 + 3]? = some (.int .i64 us[k].sum) := flat_get unC_len us k h 3 (by omega)
  have q' : unS (us.set k ⟨us[k].group, us[k].index, T, us[k].sum⟩) = setL (unS us) (k * 4) (unC ⟨us[k].group, us[k].index, T, us[k].sum⟩) := q.symm
  rw [q']
  clear q q'
  generalize unS us = Z at *
  simp only [unC, setL]
  rw [set_same e0, set_same e1]
  exact (set_same (by rw [List.getElem?_set_ne (by omega)]; exact e3)).symm
abbrev byS (b : Nat) (l : List UInt8) : Str := ⟨fun W => BRow W b l, b, b + 1⟩
theorem BRow.turned {w w' : World} {g lo hi : Nat} {L : List UInt8} (h : BRow w g L) (t : Turned w w' lo hi) (hd : g < lo ∨ hi ≤ g) : BRow w' g L :=
  ⟨Nat.lt_of_lt_of_le h.1 t.size, fun i hi => ⟨(World.cell?_of_block (a := ⟨g, i, none⟩) (t.block g h.1 hd)).trans (h.2 i hi).1, (World.frozen?_of_block (a := ⟨g, i, none⟩) (t.block g h.1 hd)).trans (h.2 i hi).2⟩⟩
theorem byS.loc (b : Nat) (l : List UInt8) : (byS b l).Loc := fun _ _ _ _ h t hd => BRow.turned h t (by rcases hd with h | h <;> (dsimp only [byS] at h; omega))
set_option maxRecDepth 100000 in
set_option maxHeartbeats 8000000 in
theorem specSpoil (H : HM) (a : Option Addr) (cap : Nat) (g i at9 : Int) (w : World) (hr : UnRow w a H.us) (hl : H.us.length ≤ 1048576) (hz : unSum H.us ≤ 1048576) (ha : at9 ≤ 9223372036854775807) :
    Calls Try.prog 47 #[hov H a cap, .int .i64 g, .int .i64 i, .int .i64 at9] w fun e w' => HbPost (spoilX H g i at9) w e w' := by
  have HR := Shut.mk hr
  have HCP := Shut.mk (fun (W : World) (hb : Below w.heap.size w W) => specCopy14 H a cap W (hr.stays hb) hl)
  have HA := Shut.mk (fun (W : World) (hb : Below w.heap.size w W) => specAt14 H a cap g i W (hr.stays hb) hl)
  have HZ : Shut (∀ u ∈ H.us, u.text.size ≤ 1048576) := ⟨fun u hu => by have := unSum_mem hu; omega⟩
  unfold HoPost at HCP
  clear hr hz
  obtain ⟨id, up, us⟩ := H
  obtain ⟨RR, hRR⟩ : ∃ q, q = spoilX ⟨id, up, us⟩ g i at9 := ⟨_, rfl⟩
  rw [← hRR]
  have HQ := Shut.mk hRR
  unfold spoilX at HQ
  show Calls Try.prog 47 #[.agg #[.int .i64 id, .bool up, .slice a us.length cap], .int .i64 g, .int .i64 i, .int .i64 at9] w fun e w' => HbPost RR w e w'
  dsimp only [hov] at *
  obtain ⟨n, hn⟩ : ∃ n, n = us.length := ⟨_, rfl⟩
  have HN := Shut.mk hn
  rw [← hn] at HCP HA hl ⊢
  obtain ⟨ki, hki⟩ : ∃ q, q = atN us g i := ⟨_, rfl⟩
  rw [← hki] at HA
  have HK := Shut.mk hki
  clear hki hRR hn
  have HS0 := Shut.mk (((SL.start w).new #[.int .i64 id, .bool up, .slice a n cap] 29).new #[.int .i64 0, .bool false, .slice none 0 0] 29)
  simp only [World.size_alloc] at HS0
  go_enter Try.func47, Try.ntmps47
  go_upto_region 1 with fail
  refine wp_shade (fun W => SL w W [bxS (w.heap.size + 1) [.int .i64 0, .bool false, .slice none 0 0], bxS w.heap.size [.int .i64 id, .bool up, .slice a n cap]]) HS0.out ?_
  intro W0 hW
  have H := Shut.mk hW
  clear HS0 hW
  have x0 := (H.out.bx 1 rfl 0 _ rfl).1
  have x1 := (H.out.bx 1 rfl 1 _ rfl).1
  have x2 := (H.out.bx 1 rfl 2 _ rfl).1
  go_upto_region 2 with (go_at_call 56; refine (HCP.out _ H.out.bel).mono ?_; rintro e w1 ⟨ac, cc, rfl, hF, hcc, hb⟩; have HS1 := Shut.mk (H.out.add (s := rwS ac (unS us) W0.heap.size w1.heap.size) hb hF (rwS.loc _ _ _ _) (Nat.le_refl _) (Nat.le_refl _)); clear hF hb H x0 x1 x2)
  generalize W0.heap.size = lc at HS1
  obtain ⟨hc9, hhc⟩ : ∃ q, q = w1.heap.size := ⟨_, rfl⟩
  rw [← hhc] at HS1
  clear hhc
  obtain ⟨b6, hb6⟩ : ∃ q, q = w1.heap.size := ⟨_, rfl⟩
  refine wp_shade (fun W => SL w W [bxS b6 [.int .i64 id, .bool up, .slice ac n cc], rwS ac (unS us) lc hc9, bxS (w.heap.size + 1) [.int .i64 0, .bool false, .slice none 0 0], bxS w.heap.size [.int .i64 id, .bool up, .slice a n cap]]) (by rw [hb6]; exact HS1.out.new _ _) ?_
  intro W2 hW
  have H := Shut.mk hW
  rw [← hb6]
  clear hW hb6 HS1
  have x0 := (H.out.bx 3 rfl 0 _ rfl).1
  have x1 := (H.out.bx 3 rfl 1 _ rfl).1
  have x2 := (H.out.bx 3 rfl 2 _ rfl).1
  go_upto_region 3 with (go_at_call 57; refine (HA.out _ H.out.bel).mono ?_; rintro e w3 ⟨rfl, hb⟩; have HW := Shut.mk (H.out.below hb); clear hb x0 x1 x2 H)
  have lw := (show WCells w3 w.heap.size _ from HW.out.at 3 rfl).1
  have g2 : ∀ X : Grow w3, X.val.cell? ⟨w.heap.size, 2, none⟩ = some (.slice a n cap) := fun X => X.cell (HW.out.bx 3 rfl 2 _ rfl).1 lw
  by_cases hf : unIdx us g i < us.length
  case neg =>
    have hki : ki = -1 := by rw [HK.out, idx_no hf]
    have HE : Shut (RR = (⟨id, up, us⟩, false)) := ⟨by rw [HQ.out]; simp [hf]⟩
    subst hki
    clear hf
    refine wp_region_grow (by kernel_rfl) (by kernel_rfl) ?_
    repeat (go_big_quiet_step (fail))
    refine wpQuiet_nil ?_
    rintro _ ⟨X, rfl⟩
    have H := Shut.mk (HW.out.below X.bel)
    clear g2
    have z0 := (H.out.bx 0 rfl 0 _ rfl).1
    have z1 := (H.out.bx 0 rfl 1 _ rfl).1
    have z2 := (H.out.bx 0 rfl 2 _ rfl).1
    obtain ⟨r0, r0z⟩ := H.out.bx 2 rfl 0 _ rfl
    obtain ⟨r1, r1z⟩ := H.out.bx 2 rfl 1 _ rfl
    obtain ⟨r2, r2z⟩ := H.out.bx 2 rfl 2 _ rfl
    go_wp2_with fail
    have HE3 := Shut.mk ((((H.out.put 2 rfl 0 (.int .i64 id) (by simp)).put 2 rfl 1 (.bool up) (by simp)).put 2 rfl 2 (.slice ac n cc) (by simp)))
    refine bodyPost_ret (v := .tuple #[.agg #[.int .i64 id, .bool up, .slice ac n cc], .bool false]) (by simp [results, Try.results47, go_sem, r0, r1, r2]) rfl ?_
    rw [HE.out]
    have hs := HE3.out.is _ (List.mem_of_getElem? (show _[1]? = some (rwS ac (unS us) lc hc9) from rfl))
    exact ⟨_, cc, by rw [HN.out], frw_wide (show FRw _ _ (unS us) lc hc9 from hs.1) hs.2.2.1 hs.2.2.2, by have := HN.out; show us.length ≤ cc; omega, HE3.out.bel⟩
  obtain ⟨k, hk⟩ : ∃ k, k = unIdx us g i := ⟨_, rfl⟩
  have hki : ki = (k : Int) := by rw [HK.out, idx_lt hf, hk]
  rw [← hk] at hf
  obtain ⟨b, off, u, rfl, hu, lb, hc⟩ := un_at HR.out HW.out.bel hf
  have hut : u.text.size ≤ 1048576 := by rw [hu]; exact HZ.out _ (List.getElem_mem hf)
  have HQ2 : Shut (RR = if decide (0 ≤ at9) && !(u.text.toList == []) && unSound u then (⟨id, up, us.set k ⟨u.group, u.index, turnAt u.text (at9.toNat % u.text.size), u.sum⟩⟩, true) else (⟨id, up, us⟩, false)) := ⟨by
    rw [HQ.out, ← hk, getD_un us k hf, ← hu]; simp [hf]⟩
  have HSU := Shut.mk (fun X : Grow w3 => calls_same (w := w3) (fun W' (_ : Below w3.heap.size w3 W') => specSumText u.text W' hut) X)
  unfold unSound at HQ2
  generalize sumN u.text = sn at HQ2 HSU
  subst hki
  have k0 : (0 : Int) ≤ (k : Int) := by omega
  have k1 : (k : Int) < (n : Int) := by have := HN.out; omega
  have k2 : decide ((k : Int) < 0) = false := by simp
  have p2 : ∀ X : Grow w3, X.val.cell? ⟨b, off + k * 4 + 2, none⟩ = some (.string u.text) := fun X => (hc X.val X.bel).2.2.1
  have p3 : ∀ X : Grow w3, X.val.cell? ⟨b, off + k * 4 + 3, none⟩ = some (.int .i64 u.sum) := fun X => (hc X.val X.bel).2.2.2
  have HC := Shut.mk hc
  have HU := Shut.mk hu
  clear hc hk hu
  by_cases hat : 0 ≤ at9
  case neg =>
    have ha2 : decide (at9 < 0) = true := by simp; omega
    have HE : Shut (RR = (⟨id, up, us⟩, false)) := ⟨by rw [HQ2.out, decide_eq_false hat]; rfl⟩
    refine wp_region_grow (by kernel_rfl) (by kernel_rfl) ?_
    repeat (go_big_quiet_step (fail))
    refine wpQuiet_nil ?_
    rintro _ ⟨X, rfl⟩
    have H := Shut.mk (HW.out.below X.bel)
    clear p2 p3 g2
    have z0 := (H.out.bx 0 rfl 0 _ rfl).1
    have z1 := (H.out.bx 0 rfl 1 _ rfl).1
    have z2 := (H.out.bx 0 rfl 2 _ rfl).1
    obtain ⟨r0, r0z⟩ := H.out.bx 2 rfl 0 _ rfl
    obtain ⟨r1, r1z⟩ := H.out.bx 2 rfl 1 _ rfl
    obtain ⟨r2, r2z⟩ := H.out.bx 2 rfl 2 _ rfl
    go_wp2_with fail
    have HE3 := Shut.mk ((((H.out.put 2 rfl 0 (.int .i64 id) (by simp)).put 2 rfl 1 (.bool up) (by simp)).put 2 rfl 2 (.slice ac n cc) (by simp)))
    refine bodyPost_ret (v := .tuple #[.agg #[.int .i64 id, .bool up, .slice ac n cc], .bool false]) (by simp [results, Try.results47, go_sem, r0, r1, r2]) rfl ?_
    rw [HE.out]
    have hs := HE3.out.is _ (List.mem_of_getElem? (show _[1]? = some (rwS ac (unS us) lc hc9) from rfl))
    exact ⟨_, cc, by rw [HN.out], frw_wide (show FRw _ _ (unS us) lc hc9 from hs.1) hs.2.2.1 hs.2.2.2, by have := HN.out; show us.length ≤ cc; omega, HE3.out.bel⟩
  have ha2 : decide (at9 < 0) = false := by simp; omega
  rw [decide_eq_true hat] at HQ2
  cases hte : u.text.toList == [] with
  | true =>
    have HE : Shut (RR = (⟨id, up, us⟩, false)) := ⟨by rw [HQ2.out, hte]; rfl⟩
    refine wp_region_grow (by kernel_rfl) (by kernel_rfl) ?_
    repeat (go_big_quiet_step (fail))
    refine wpQuiet_nil ?_
    rintro _ ⟨X, rfl⟩
    have H := Shut.mk (HW.out.below X.bel)
    clear p2 p3 g2
    have z0 := (H.out.bx 0 rfl 0 _ rfl).1
    have z1 := (H.out.bx 0 rfl 1 _ rfl).1
    have z2 := (H.out.bx 0 rfl 2 _ rfl).1
    obtain ⟨r0, r0z⟩ := H.out.bx 2 rfl 0 _ rfl
    obtain ⟨r1, r1z⟩ := H.out.bx 2 rfl 1 _ rfl
    obtain ⟨r2, r2z⟩ := H.out.bx 2 rfl 2 _ rfl
    go_wp2_with fail
    have HE3 := Shut.mk ((((H.out.put 2 rfl 0 (.int .i64 id) (by simp)).put 2 rfl 1 (.bool up) (by simp)).put 2 rfl 2 (.slice ac n cc) (by simp)))
    refine bodyPost_ret (v := .tuple #[.agg #[.int .i64 id, .bool up, .slice ac n cc], .bool false]) (by simp [results, Try.results47, go_sem, r0, r1, r2]) rfl ?_
    rw [HE.out]
    have hs := HE3.out.is _ (List.mem_of_getElem? (show _[1]? = some (rwS ac (unS us) lc hc9) from rfl))
    exact ⟨_, cc, by rw [HN.out], frw_wide (show FRw _ _ (unS us) lc hc9 from hs.1) hs.2.2.1 hs.2.2.2, by have := HN.out; show us.length ≤ cc; omega, HE3.out.bel⟩
  | false =>
    rw [hte] at HQ2
    cases hs : u.sum == sn with
    | false =>
      have hs' : (u.sum != sn) = true := by rw [bne, hs]; rfl
      have HE : Shut (RR = (⟨id, up, us⟩, false)) := ⟨by rw [HQ2.out, hs]; rfl⟩
      refine wp_region_grow (by kernel_rfl) (by kernel_rfl) ?_
      repeat (go_big_quiet_step (first | (go_at_call 58; with_reducible exact HSU.out _)))
      refine wpQuiet_nil ?_
      rintro _ ⟨X, rfl⟩
      have H := Shut.mk (HW.out.below X.bel)
      clear p2 p3 g2
      have z0 := (H.out.bx 0 rfl 0 _ rfl).1
      have z1 := (H.out.bx 0 rfl 1 _ rfl).1
      have z2 := (H.out.bx 0 rfl 2 _ rfl).1
      obtain ⟨r0, r0z⟩ := H.out.bx 2 rfl 0 _ rfl
      obtain ⟨r1, r1z⟩ := H.out.bx 2 rfl 1 _ rfl
      obtain ⟨r2, r2z⟩ := H.out.bx 2 rfl 2 _ rfl
      go_wp2_with fail
      have HE3 := Shut.mk ((((H.out.put 2 rfl 0 (.int .i64 id) (by simp)).put 2 rfl 1 (.bool up) (by simp)).put 2 rfl 2 (.slice ac n cc) (by simp)))
      refine bodyPost_ret (v := .tuple #[.agg #[.int .i64 id, .bool up, .slice ac n cc], .bool false]) (by simp [results, Try.results47, go_sem, r0, r1, r2]) rfl ?_
      rw [HE.out]
      have hs := HE3.out.is _ (List.mem_of_getElem? (show _[1]? = some (rwS ac (unS us) lc hc9) from rfl))
      exact ⟨_, cc, by rw [HN.out], frw_wide (show FRw _ _ (unS us) lc hc9 from hs.1) hs.2.2.1 hs.2.2.2, by have := HN.out; show us.length ≤ cc; omega, HE3.out.bel⟩
    | true =>
      have hs' : (u.sum != sn) = false := by rw [bne, hs]; rfl
      have HE : Shut (RR = (⟨id, up, us.set k ⟨u.group, u.index, turnAt u.text (at9.toNat % u.text.size), u.sum⟩⟩, true)) := ⟨by rw [HQ2.out, hs]; rfl⟩
      refine wp_region_grow (by kernel_rfl) (by kernel_rfl) ?_
      repeat (go_big_quiet_step (first | (go_at_call 58; with_reducible exact HSU.out _)))
      refine wpQuiet_nil ?_
      rintro _ ⟨X, rfl⟩
      have H := Shut.mk (HW.out.below X.bel)
      have y2 := g2 X
      have y3 := p2 X
      clear p2 p3 g2 HW HQ2
      obtain ⟨W4, hb4⟩ := X
      dsimp only at *
      have hpos : 0 < u.text.size := by
        rcases Nat.eq_zero_or_pos u.text.size with e | e
        · exfalso
          have : u.text = ⟨#[]⟩ := by
            cases u; rename_i t _; cases t; rename_i d; simp only [ByteArray.size] at e ⊢; congr 1; exact Array.eq_empty_of_size_eq_zero e
          rw [this] at hte
          rw [toList_none] at hte
          cases hte
        · exact e
      obtain ⟨W5, c5, hcv, hrow5, hb5⟩ := bytes_made W4 u.text
      obtain ⟨bb, hbb⟩ : ∃ q, q = W4.heap.size := ⟨_, rfl⟩
      have H5 := Shut.mk (H.out.add (s := byS bb u.text.data.toList) hb5 (by rw [hbb]; exact hrow5) (byS.loc _ _) (by rw [hbb]; exact Nat.le_refl _) (by rw [hbb]; exact hrow5.1))
      rw [← hbb] at hcv
      clear hrow5 hb5 hbb hb4 H
      go_upto_region 6 with fail
      obtain ⟨j, hj⟩ : ∃ j : Nat, at9.tmod (u.text.size : Int) = (j : Int) := by
        rw [Int.tmod_eq_emod_of_nonneg hat]
        exact Int.eq_ofNat_of_zero_le (Int.emod_nonneg _ (by omega))
      have hj2 : j < u.text.size ∧ j = at9.toNat % u.text.size := by
        rw [Int.tmod_eq_emod_of_nonneg hat] at hj
        have h1 := Int.emod_lt_of_pos at9 (show (0 : Int) < (u.text.size : Int) by omega)
        obtain ⟨q, rfl⟩ := Int.eq_ofNat_of_zero_le hat
        simp only [Int.toNat_natCast] at *
        omega
      have HJ := Shut.mk hj2
      have hne : ¬ ((u.text.size : Int) = 0) := by omega
      have hL : u.text.data.toList.length = u.text.size := rfl
      obtain ⟨x, hx⟩ : ∃ o : UInt8, u.text.data.toList.getD j 0 = o := ⟨_, rfl⟩
      have hci := (show BRow W5 bb u.text.data.toList from H5.out.at 0 rfl).2 j (by have := HJ.out.1; omega)
      rw [hx] at hci
      obtain ⟨hc1, hc2⟩ := hci
      have hxo := bits_one x
      have j0 : (0 : Int) ≤ (j : Int) := by omega
      have j1 : (j : Int) < (u.text.size : Int) := by have := HJ.out.1; omega
      have HX := Shut.mk hx
      have H6 := Shut.mk (H5.out.turn 0 rfl (W' := W5.setCell ⟨bb, j, none⟩ (.int .u8 ((x ^^^ 1).toNat : Int))) (Turned.of_grown (gb_set' W5 bb j _) (Nat.le_refl _) (Nat.lt_succ_self _)) ((show BRow W5 bb u.text.data.toList from H5.out.at 0 rfl).set j (x ^^^ 1) (by have := HJ.out.1; omega)) (byS.loc _ _))
      simp only [List.set_cons_zero] at H6
      have HT : Shut ((⟨(u.text.data.toList.set j (x ^^^ 1)).toArray⟩ : ByteArray) = turnAt u.text (at9.toNat % u.text.size)) := ⟨by unfold turnAt; rw [← HJ.out.2, HX.out]⟩
      clear hj2 hx H5
      generalize x ^^^ 1 = z at *
      go_region
      all_goals
        go_upto_region 7 with fail
        refine wp_shade (fun W => SL w W [byS bb (u.text.data.toList.set j z), bxS b6 [.int .i64 id, .bool up, .slice ac n cc], rwS ac (unS us) lc hc9, bxS (w.heap.size + 1) [.int .i64 0, .bool false, .slice none 0 0], bxS w.heap.size [.int .i64 id, .bool up, .slice (some ⟨b, off, none⟩) n cap]]) (by first | exact H6.out.drew | exact H6.out) ?_
        intro W7 hW
        have H := Shut.mk hW.tail
        have hcv2 := brow_string (cap := c5) (show BRow W7 bb (u.text.data.toList.set j z) from hW.at 0 rfl)
        rw [List.length_set, hL, HT.out] at hcv2
        clear hW H6 hcv hc1 hc2 hxo hj
        generalize turnAt u.text (at9.toNat % u.text.size) = T at *
        obtain ⟨gc, rfl, hlc, hhc, hwc⟩ : ∃ gc, ac = some ⟨gc, 0, none⟩ ∧ lc ≤ gc ∧ gc < hc9 ∧ WCells W7 gc (unS us) := by
          rcases (show FRw W7 ac (unS us) lc hc9 from H.out.at 1 rfl) with ⟨_, e⟩ | q
          · have := congrArg List.length e
            rw [unS_len] at this
            simp at this
            omega
          · exact q
        obtain ⟨s2, s2z⟩ := hwc.2 (k * 4 + 2) _ (flat_get unC_len us k hf 2 (by omega))
        have z2 := (H.out.bx 0 rfl 2 _ rfl).1
        have H8 := Shut.mk (H.out.turn 1 rfl (W' := W7.setCell ⟨gc, k * 4 + 2, none⟩ (.string T)) (Turned.of_grown (gb_set' W7 gc (k * 4 + 2) _) hlc hhc) (q := fun W => FRw W (some ⟨gc, 0, none⟩) (unS (us.set k ⟨u.group, u.index, T, u.sum⟩)) lc hc9) (by
          have q1 := hwc.set (k * 4 + 2) (.string T) (by rw [unS_len]; omega)
          rw [uns_text us k hf T, ← HU.out] at q1
          exact .inr ⟨gc, rfl, hlc, hhc, q1⟩) (rwS.loc _ _ _ _))
        simp only [List.set_cons_zero, List.set_cons_succ] at H8
        clear hwc
        go_upto_region 8 with fail
        refine wp_shade (fun W => SL w W [bxS b6 [.int .i64 id, .bool up, .slice (some ⟨gc, 0, none⟩) n cc], rwS (some ⟨gc, 0, none⟩) (unS (us.set k ⟨u.group, u.index, T, u.sum⟩)) lc hc9, bxS (w.heap.size + 1) [.int .i64 0, .bool false, .slice none 0 0], bxS w.heap.size [.int .i64 id, .bool up, .slice (some ⟨b, off, none⟩) n cap]]) H8.out ?_
        intro W8 hW
        clear H z2 s2 s2z H8
        have H := Shut.mk hW
        clear hW
        have z0 := (H.out.bx 0 rfl 0 _ rfl).1
        have z1 := (H.out.bx 0 rfl 1 _ rfl).1
        have z2 := (H.out.bx 0 rfl 2 _ rfl).1
        obtain ⟨r0, r0z⟩ := H.out.bx 2 rfl 0 _ rfl
        obtain ⟨r1, r1z⟩ := H.out.bx 2 rfl 1 _ rfl
        obtain ⟨r2, r2z⟩ := H.out.bx 2 rfl 2 _ rfl
        go_wp2_with fail
        have HE3 := Shut.mk ((((H.out.put 2 rfl 0 (.int .i64 id) (by simp)).put 2 rfl 1 (.bool up) (by simp)).put 2 rfl 2 (.slice (some ⟨gc, 0, none⟩) n cc) (by simp)))
        refine bodyPost_ret (v := .tuple #[.agg #[.int .i64 id, .bool up, .slice (some ⟨gc, 0, none⟩) n cc], .bool true]) (by simp [results, Try.results47, go_sem, r0, r1, r2]) rfl ?_
        rw [HE.out]
        have hs := HE3.out.is _ (List.mem_of_getElem? (show _[1]? = some (rwS (some ⟨gc, 0, none⟩) (unS (us.set k ⟨u.group, u.index, T, u.sum⟩)) lc hc9) from rfl))
        exact ⟨_, cc, by show _ = Ending.returned (.tuple #[.agg #[.int .i64 id, .bool up, .slice _ (us.set k _).length cc], .bool true]); rw [List.length_set, ← HN.out], frw_wide (show FRw _ _ (unS (us.set k ⟨u.group, u.index, T, u.sum⟩)) lc hc9 from hs.1) hs.2.2.1 hs.2.2.2, by have := HN.out; show (us.set k _).length ≤ cc; rw [List.length_set]; omega, HE3.out.bel⟩
end Go.Proofs.Ytoaifodmjkhiiaa
/- DrHt: The models' draw of hosts. -/
namespace Go.Proofs.Ytoaifodmjkhiiaa
set_option maxRecDepth 100000
open Go.RowKit BigFrame
attribute [local go_sem ↓] Go.wp_at_zero Go.wp_at_succ

/-- Seven good hosts, a schema, a group's number, a text. -/
def HsDrawn (w0 W : World) (g B : Nat) (a : Option Addr) (len cap : Nat) (S : List Str) (e : Ending) (W' : World) : Prop :=
  ∃ gH c gs s t hi, e = .returned (.tuple #[.slice (some ⟨gH, 0, none⟩) 7 c, .int .i64 s, .int .i64 1, .string t]) ∧ 1 ≤ s ∧ s ≤ 3 ∧ t.size ≤ 200 ∧ DH w0 W' g B a len cap S W.heap.size hi gH gs 18
theorem group_le (s : Int) : groupN s ≤ 64 := by
  unfold groupN
  have : schK s ≤ 4 := by unfold schK; split <;> (try split) <;> (try split) <;> omega
  omega
set_option maxRecDepth 100000 in
set_option maxHeartbeats 8000000 in
theorem l15Hosts_any (w0 W : World) (g B : Nat) (a : Option Addr) (len cap : Nat) (S : List Str) (h : SD w0 W g B a len cap S) :
    Calls Try.prog 33 #[.pointer (some ⟨g, 0, none⟩)] W fun e W' => HsDrawn w0 W g B a len cap S e W' := by
  obtain ⟨i0, hin, hz0, hz1, hz2⟩ := info_parts infoHost15
  have H0 : Shut (D1 w0 (W.alloc (.cells #[] 29)) g B a len cap S W.heap.size (.slice (some ⟨W.heap.size, 0, none⟩) 0 0) []) := ⟨⟨h.below ((Below.refl _ _).alloc (Nat.le_refl _) _), World.ownsRow_made (e := 29) (size := 3) (base := W.heap.size) W #[] 0 (Nat.le_refl _) (by decide) (by simp), fun r hr => (by cases hr), fun i hi => (by simp at hi), h.cur.2.1, fun s hs => (h.sl.is s hs).2.2.2, h.sl.bel.size, by simp⟩⟩
  obtain ⟨base, hbase⟩ : ∃ q, q = W.heap.size := ⟨_, rfl⟩
  have HBA := Shut.mk hbase
  have H1 := H0.out
  rw [← hbase] at H1
  replace H1 := Shut.mk H1
  clear h H0
  go_enter Try.func33, Try.ntmps33
  go_wp2_with fail
  rw [← hbase]
  clear hbase
  go_loopw [6, 7] (fun v i9 wr => ∃ (k : Nat), i9 = .int .i64 ((k : Int) + 1) ∧ k ≤ 7 ∧ Shut (∃ gs, gs.length = k ∧ D1 w0 wr g B a len cap S base v gs)) (fun _ i9 _ => 8 - (intOf i9).toNat)
  case atStart => exact ⟨0, rfl, by omega, ⟨[], rfl, by first | exact H1.out | (have q := H1.out; simpa using q)⟩⟩
  case round =>
    clear H1
    obtain ⟨k, rfl, hk, HW⟩ := hrel
    obtain ⟨gs, hgl, hgs⟩ := HW.out
    have HG := Shut.mk (And.intro hgl hgs)
    obtain ⟨av, cv, rfl⟩ := own_any3 hgs.own
    rw [hgl]
    clear HW hgs hgl
    by_cases hlt : k < 7
    case pos =>
      have hk1 : (k : Int) + 1 ≤ 7 := by omega
      go_wp2_with (first
        | (go_at_call 43; refine (HG.out.2.sd.once 12 (by omega)).mono ?_; rintro e w2 ⟨y, rfl, hd⟩; have HD2 := Shut.mk (HG.out.2.draw hd); clear hd; have hown := HD2.out.own; rw [HG.out.1] at hown; have hsz := HD2.out.size)
        | (at_builtin; refine wpList_append_own_at _ rfl _ _ 38 rfl base 29 i0 (.agg #[.int .i64 0, .bool false, .slice none 0 0]) 3 40 Try.underlying38 hin hz0 hz1 hz2 rfl (by decide) _ _ _ rfl (hown.alloc _) ⟨w2.heap.size, 0, none⟩ 1 1 (hC ⟨⟨(k : Int) + 1, !y, []⟩, none, 0⟩) rfl rfl ?c1 ?c2 ?c3 ?c4 ?c5 ?_))
      case c1 =>
        intro j u hu
        have q := ((wcells_new w2 #[.int .i64 ((k : Int) + 1), .bool (!y), .slice none 0 0] 29).2 j u hu).1
        cases j with
        | zero => exact q
        | succ j => simpa [Addr.add] using q
      case c2 =>
        intro u hu
        simp only [hC, List.mem_cons, List.not_mem_nil, or_false] at hu
        rcases hu with rfl | rfl | rfl <;> rfl
      case c3 => unfold maxLen; omega
      case c4 => omega
      case c5 => first | omega | (simp; omega)
      intro v9 w9 ho hg _ hat
      have HN := Shut.mk (HD2.out.more ((Below.refl _ _).alloc (Nat.le_refl _) (.cells #[.int .i64 ((k : Int) + 1), .bool (!y), .slice none 0 0] 29)) (!y) (by rw [HG.out.1]; exact ho) (by rw [HG.out.1]; exact hg))
      clear ho hg hat hown hsz
      go_wp2_with fail
      go_roundw
      case rel => exact ⟨k + 1, by go_num, by omega, ⟨_, by rw [List.length_append, HG.out.1]; rfl, HN.out⟩⟩
      case measure => simp [intOf]; omega
    obtain rfl : 7 = k := by omega
    obtain ⟨gH, cH, e1, hdh⟩ := HG.out.2.done HG.out.1
    have HD := Shut.mk hdh
    rw [HG.out.1] at e1
    cases e1
    clear hdh HG
    go_upto_region 8 with (go_at_call 36; refine (HD.out.sd.pick 3 (by omega)).mono ?_; rintro e w2 ⟨y, rfl, y0, y1, hd⟩; have HD2 := Shut.mk (HD.out.draw hd); clear hd)
    have ys : 0 ≤ y ∧ y ≤ 2 := by omega
    obtain ⟨s, hs⟩ : ∃ q, q = 1 + y := ⟨_, rfl⟩
    have hs1 : 1 ≤ s ∧ s ≤ 3 := by omega
    rw [← hs]
    have HGN := Shut.mk (groupN_bounds s)
    clear hs y0 y1 ys HD
    go_upto_region 9 with fail
    go_loopw [6, 9, 10] (fun v t9 i9 wr => ∃ (j gH c hi : Nat) (gs : List HoR) (t : ByteArray), v = .slice (some ⟨gH, 0, none⟩) 7 c ∧ t9 = .string t ∧ i9 = .int .i64 (j : Nat) ∧ 1 ≤ j ∧ j ≤ 4 ∧ t.size ≤ 200 ∧ Shut (DH w0 wr g B a len cap S base hi gH gs (6 * (j - 1)))) (fun _ _ i9 _ => 5 - (intOf i9).toNat)
    case atStart => exact ⟨1, gH, _, _, gs, ⟨#[]⟩, rfl, rfl, rfl, by omega, by omega, by decide, ⟨HD2.out⟩⟩
    case round =>
      clear HD2
      obtain ⟨j, gH, cH, hi, gs, t, rfl, rfl, rfl, hj1, hj4, ht, HD⟩ := hrel
      go_wp2_with (go_at_call 36; (apply Calls.mono; focus (with_reducible exact (HD.out.sd.pick 3 (by omega)))); rintro e w2 ⟨y, rfl, y0, y1, hd⟩; have HD2 := Shut.mk (HD.out.draw hd); clear hd)
      · have hj3 : j ≤ 3 := by omega
        obtain ⟨gn, hgn⟩ : ∃ q, q = groupN s := ⟨_, rfl⟩
        have hgb : gn ≤ 32 := by rw [hgn]; exact HGN.out
        have HGS := Shut.mk (specGroupSize s w2)
        rw [← hgn] at HGS
        have HNX : Shut (6 * (j + 1 - 1) = 6 * (j - 1) + 6) := ⟨by omega⟩
        clear hgn HD
        refine HGS.out.mono ?_
        rintro e w3 ⟨rfl, hw3⟩
        subst hw3
        go_wp2_with fail
        refine (HD2.out.sd.pick (gn : Nat) (by omega)).mono ?_
        rintro e w4 ⟨z, rfl, z0, z1, hd⟩
        have HD4 := Shut.mk (HD2.out.draw hd)
        clear hd
        obtain ⟨z9, rfl⟩ := Int.eq_ofNat_of_zero_le z0
        obtain ⟨q, hq⟩ : ∃ q, q = 1 + z9 := ⟨_, rfl⟩
        have hq2 : (1 : Int) + (z9 : Int) = (q : Int) := by omega
        have hq3 : q ≤ 40 := by omega
        clear hq z1 z0
        go_wp2_with fail
        refine (HD4.out.sd.text q (by omega)).mono ?_
        rintro e w5 ⟨tx, rfl, htx, hd⟩
        have HD5 := Shut.mk (HD4.out.draw hd)
        have HWR := Shut.mk (specWrite15 (some ⟨gH, 0, none⟩) gs cH s (j : Nat) tx (6 * (j - 1)) w5 HD5.out.row HD5.out.good (by omega) (by omega) ⟨by omega, by omega⟩)
        rw [HD5.out.seven] at HWR
        have htx2 : tx.size ≤ 200 := by omega
        clear hd htx
        go_wp2_with fail
        refine HWR.out.mono ?_
        rintro e w6 ⟨g6, c6, gs6, ok6, rfl, hc6, hwg⟩
        have HD6 := HD5.out.wrote hwg
        rw [← HNX.out] at HD6
        replace HD6 := Shut.mk HD6
        clear hwg
        go_wp2_with fail
        all_goals first
          | exact ⟨⟨j + 1, g6, c6, _, gs6, tx, rfl, rfl, by go_num, by omega, by omega, htx2, HD6⟩, by simp [intOf]; omega⟩
          | exact ⟨⟨j + 1, g6, c6, _, gs6, t, rfl, rfl, by go_num, by omega, by omega, ht, HD6⟩, by simp [intOf]; omega⟩
      · have HD3 : Shut (DH w0 w2 g B a len cap S base hi gH gs 18) := ⟨HD2.out.mono (by omega)⟩
        clear HD HD2 HGN
        go_loopw [14] (fun i9 wr => ∃ (i hi : Nat) (gs : List HoR), i9 = .int .i64 (i : Nat) ∧ i ≤ 4 ∧ Shut (DH w0 wr g B a len cap S base hi gH gs 18)) (fun i9 _ => 5 - (intOf i9).toNat)
        case atStart => exact ⟨0, hi, gs, rfl, by omega, HD3⟩
        case round =>
          clear HD3
          obtain ⟨i, hi, gs, rfl, hi4, HD⟩ := hrel
          go_wp2_with (go_at_call 36; (apply Calls.mono; focus (with_reducible exact (HD.out.sd.pick 4 (by omega)))); rintro e w3 ⟨x, rfl, x0, x1, hd⟩; have HD3 := Shut.mk (HD.out.draw hd); clear hd)
          · have hi3 : i ≤ 3 := by omega
            refine (HD3.out.sd.pick 7 (by omega)).mono ?_
            rintro e w4 ⟨k9, rfl, k0, k1, hd⟩
            have HD4 := Shut.mk (HD3.out.draw hd)
            clear hd HD3 HD
            obtain ⟨k, rfl⟩ := Int.eq_ofNat_of_zero_le k0
            have hk7 : k < 7 := by omega
            have k2 : (k : Int) < 7 := by omega
            clear k1
            go_wp2_with fail
            refine (HD4.out.sd.pick 4 (by omega)).mono ?_
            rintro e w5 ⟨x9, rfl, y0, y1, hd⟩
            have HD5 := Shut.mk (HD4.out.draw hd)
            clear hd HD4
            have hkg : k < gs.length := by rw [HD5.out.seven]; exact hk7
            have hwo := HD5.out.gw.out
            obtain ⟨q0, z0⟩ := hwo.2 (k * 3) _ (flat_get hC_len gs k hkg 0 (by omega))
            obtain ⟨q1, z1⟩ := hwo.2 (k * 3 + 1) _ (flat_get hC_len gs k hkg 1 (by omega))
            obtain ⟨q2, z2⟩ := hwo.2 (k * 3 + 2) _ (flat_get hC_len gs k hkg 2 (by omega))
            have lgH : gH < w5.heap.size := hwo.1
            clear hwo
            by_cases hx0 : x9 = 0
            case pos =>
              subst hx0
              have HN := Shut.mk (HD5.out.up k hkg false)
              clear HD5
              go_wp2_with fail
              go_roundw
              case rel => exact ⟨i + 1, _, _, by go_num, by omega, HN⟩
              case measure => simp [intOf]; omega
            by_cases hx1 : x9 = 1
            case pos =>
              subst hx1
              have HN := Shut.mk ((HD5.out.empty k hkg (some ⟨w5.heap.size, 0, none⟩) 0).below ((Below.refl _ _).alloc (Nat.le_refl _) (.cells #[] 70)))
              have hne : ¬ gH = w5.heap.size := by omega
              clear HD5
              go_wp2_with fail
              go_roundw
              case rel => exact ⟨i + 1, _, _, by go_num, by omega, HN⟩
              case measure => simp [intOf]; omega
            by_cases hx2 : x9 = 2
            case neg =>
              have e0 : (x9 == 0) = false := by simpa using hx0
              have e1 : (x9 == 1) = false := by simpa using hx1
              have e2 : (x9 == 2) = false := by simpa using hx2
              have HN := Shut.mk (HD5.out.up k hkg true)
              clear HD5
              go_wp2_with fail
              go_roundw
              case rel => exact ⟨i + 1, _, _, by go_num, by omega, HN⟩
              case measure => simp [intOf]; omega
            subst hx2
            by_cases hn0 : gs[k].h.us.length = 0
            case pos =>
              have q3 : w5.cell? ⟨gH, k * 3 + 2, none⟩ = some (.slice gs[k].loc 0 gs[k].cap) := by rw [← hn0]; exact q2
              clear q2 hn0
              go_wp2_with fail
              go_roundw
              case rel => exact ⟨i + 1, _, _, by go_num, by omega, HD5⟩
              case measure => simp [intOf]; omega
            obtain ⟨r, hre⟩ : ∃ r, r = gs[k] := ⟨_, rfl⟩
            have hgd := (HD5.out.at k hkg).2
            have hrid := (HD5.out.at k hkg).1
            have q4 : w5.cell? ⟨gH, k * 3, none⟩ = some (.int .i64 r.h.id) := by rw [hre]; exact q0
            have q5 : w5.cell? ⟨gH, k * 3 + 1, none⟩ = some (.bool r.h.up) := by rw [hre]; exact q1
            have q6 : w5.cell? ⟨gH, k * 3 + 2, none⟩ = some (.slice r.loc r.h.us.length r.cap) := by rw [hre]; exact q2
            rw [← hre] at hn0 hgd hrid
            have HRE := Shut.mk (And.intro hre hrid)
            have HRW : Shut (∀ x, DH w0 x g B a len cap S base hi gH gs 18 → UnRow x r.loc r.h.us) := ⟨fun x hx => hx.row.2 r (by rw [hre]; exact List.getElem_mem hkg)⟩
            clear q0 q1 q2 hre hrid
            obtain ⟨⟨rid, rup, rus⟩, rl, rc⟩ := r
            dsimp only at *
            obtain ⟨u9, us', rfl⟩ : ∃ u us', rus = u :: us' := by
              cases rus with
              | nil => exact absurd rfl hn0
              | cons u us' => exact ⟨u, us', rfl⟩
            obtain ⟨ub0, uo0, rfl, lub, huc⟩ := (HRW.out w5 HD5.out).at (Nat.zero_lt_succ _)
            obtain ⟨u0, u1, u2, u3⟩ := huc 0 (Nat.zero_lt_succ _)
            rw [Nat.zero_mul, Nat.add_zero] at u0 u1 u2 u3
            simp only [List.getElem_cons_zero] at u0 u1 u2 u3
            have HSP := Shut.mk (fun (q : Int) (x : World) (h : UnRow x (some ⟨ub0, uo0, none⟩) (u9 :: us')) (hq : q ≤ 9) => specSpoil ⟨rid, rup, u9 :: us'⟩ (some ⟨ub0, uo0, none⟩) rc u9.group u9.index q x h (by have := hgd.2; show (u9 :: us').length ≤ 1048576; omega) (by have h1 := (hgd.fit (by omega)).2.1; have h2 := hgd.2; show unSum (u9 :: us') ≤ 1048576; omega) (by omega))
            have HSG := Shut.mk (fun (q : Int) => spoil_any (H := ⟨rid, rup, u9 :: us'⟩) hgd u9.group u9.index q)
            have HB6 := Shut.mk (HD5.out.below ((Below.refl _ _).alloc (Nat.le_refl _) (.cells #[.int .i64 u9.group, .int .i64 u9.index, .string u9.text, .int .i64 u9.sum] 70)))
            have HBX := Shut.mk (wcells_new w5 #[.int .i64 u9.group, .int .i64 u9.index, .string u9.text, .int .i64 u9.sum] 70)
            have HCL : Shut (∀ j v, w5.cell? ⟨gH, j, none⟩ = some v → (w5.alloc (.cells #[.int .i64 u9.group, .int .i64 u9.index, .string u9.text, .int .i64 u9.sum] 70)).cell? ⟨gH, j, none⟩ = some v) := ⟨fun j v hv => (((Below.refl w5.heap.size w5).alloc (Nat.le_refl _) _).cell (p := ⟨gH, j, none⟩) lgH).trans hv⟩
            have hgk : g < w5.heap.size := HD5.out.sd.cur.2.1
            have hggH : g < gH := Nat.lt_of_lt_of_le HD5.out.glt HD5.out.gw.glo
            have p0 := HCL.out _ _ q4
            have p1 := HCL.out _ _ q5
            have p2 := HCL.out _ _ q6
            obtain ⟨rn, hrn⟩ : ∃ q, q = (u9 :: us').length := ⟨_, rfl⟩
            rw [← hrn] at q6 p2
            have HRN := Shut.mk hrn
            have hn1 : 0 < rn := by rw [hrn]; exact Nat.zero_lt_succ _
            have hn2 : (0 : Int) < (rn : Int) := by omega
            clear huc hgd hn0 hrn HCL
            go_upto_region 29 with fail
            obtain ⟨ub, hub⟩ : ∃ q, q = w5.heap.size := ⟨_, rfl⟩
            refine wp_shade (fun V => DH w0 V g B a len cap S base hi gH gs 18 ∧ WCells V ub [.int .i64 u9.group, .int .i64 u9.index, .string u9.text, .int .i64 u9.sum] ∧ V.cell? ⟨gH, k * 3, none⟩ = some (.int .i64 rid) ∧ V.cell? ⟨gH, k * 3 + 1, none⟩ = some (.bool rup) ∧ V.cell? ⟨gH, k * 3 + 2, none⟩ = some (.slice (some ⟨ub0, uo0, none⟩) rn rc)) ⟨HB6.out, by rw [hub]; exact HBX.out, p0, p1, p2⟩ ?_
            rintro V ⟨hV, hVb, v0, v1, v2⟩
            rw [← hub]
            have hgub : g ≠ ub := by omega
            have HX : Shut (DH w0 V.drew g B a len cap S base hi gH gs 18) := ⟨hV.below (Below.drew (Below.refl _ _))⟩
            have HLE : Shut (∀ x, Dr g B a len cap V.drew x → x.cell? ⟨gH, k * 3, none⟩ = some (.int .i64 rid) ∧ x.cell? ⟨gH, k * 3 + 1, none⟩ = some (.bool rup) ∧ x.cell? ⟨gH, k * 3 + 2, none⟩ = some (.slice (some ⟨ub0, uo0, none⟩) rn rc) ∧ x.cell? ⟨ub, 0, none⟩ = some (.int .i64 u9.group) ∧ x.cell? ⟨ub, 1, none⟩ = some (.int .i64 u9.index)) := ⟨fun x hx => by
              have e1 : x.heap[gH]? = V.drew.heap[gH]? := hx.1.block gH hV.gw.out.1 (by simp; omega)
              have e2 : x.heap[ub]? = V.drew.heap[ub]? := hx.1.block ub hVb.1 (by simp; omega)
              exact ⟨(World.cell?_of_block (a := ⟨gH, k * 3, none⟩) e1).trans v0, (World.cell?_of_block (a := ⟨gH, k * 3 + 1, none⟩) e1).trans v1, (World.cell?_of_block (a := ⟨gH, k * 3 + 2, none⟩) e1).trans v2, (World.cell?_of_block (a := ⟨ub, 0, none⟩) e2).trans (hVb.2 0 _ rfl).1, (World.cell?_of_block (a := ⟨ub, 1, none⟩) e2).trans (hVb.2 1 _ rfl).1⟩⟩
            clear p0 p1 p2 q4 q5 q6 u0 u1 u2 u3 v0 v1 v2 hV hVb HB6 HBX HD5 hub z0 z1 z2
            refine wp_region_E (Dr g B a len cap) (Dr.pre g B a len cap) (fun j => decide (j = 0 ∨ j = 1 ∨ 14 ≤ j)) (by kernel_rfl) ?_
            refine wpE_pure (Dr.pre g B a len cap) (i := 0) (v := ?v0) rfl (by kernel_rfl) (by kernel_rfl) (by kernel_rfl) (by kernel_rfl) (fun _ _ _ h => h) (by rfl) ?hy0 ?rest0
            case hy0 => (intro x; go_simp; try with_reducible rfl)
            try simp only [Act.put, List.setIfInBounds_toArray, List.set_cons_zero, List.set_cons_succ]
            refine wpE_pure (Dr.pre g B a len cap) (i := 1) (v := ?v1) rfl (by kernel_rfl) (by kernel_rfl) (by kernel_rfl) (by kernel_rfl) (fun _ _ _ h => h) (by rfl) ?hy1 ?rest1
            case hy1 => (intro x; go_simp; try with_reducible rfl)
            try simp only [Act.put, List.setIfInBounds_toArray, List.set_cons_zero, List.set_cons_succ]
            refine wpE_val (Dr.pre g B a len cap) (i := 2) (v := ?v2) rfl (by kernel_rfl) (by kernel_rfl) (by kernel_rfl) (by kernel_rfl) (fun _ _ _ h => h) (by rfl) ?hy2 ?rest2
            case hy2 => (intro x hx; obtain ⟨d0, d1, d2, d3, d4⟩ := HLE.out x hx; go_simp; try with_reducible rfl)
            try simp only [Act.put, List.setIfInBounds_toArray, List.set_cons_zero, List.set_cons_succ]
            refine wpE_val (Dr.pre g B a len cap) (i := 3) (v := ?v3) rfl (by kernel_rfl) (by kernel_rfl) (by kernel_rfl) (by kernel_rfl) (fun _ _ _ h => h) (by rfl) ?hy3 ?rest3
            case hy3 => (intro x hx; obtain ⟨d0, d1, d2, d3, d4⟩ := HLE.out x hx; go_simp; try with_reducible rfl)
            try simp only [Act.put, List.setIfInBounds_toArray, List.set_cons_zero, List.set_cons_succ]
            refine wpE_val (Dr.pre g B a len cap) (i := 4) (v := ?v4) rfl (by kernel_rfl) (by kernel_rfl) (by kernel_rfl) (by kernel_rfl) (fun _ _ _ h => h) (by rfl) ?hy4 ?rest4
            case hy4 => (intro x hx; obtain ⟨d0, d1, d2, d3, d4⟩ := HLE.out x hx; go_simp; try with_reducible rfl)
            try simp only [Act.put, List.setIfInBounds_toArray, List.set_cons_zero, List.set_cons_succ]
            refine wpE_val (Dr.pre g B a len cap) (i := 5) (v := ?v5) rfl (by kernel_rfl) (by kernel_rfl) (by kernel_rfl) (by kernel_rfl) (fun _ _ _ h => h) (by rfl) ?hy5 ?rest5
            case hy5 => (intro x hx; obtain ⟨d0, d1, d2, d3, d4⟩ := HLE.out x hx; go_simp; try with_reducible rfl)
            try simp only [Act.put, List.setIfInBounds_toArray, List.set_cons_zero, List.set_cons_succ]
            refine wpE_val (Dr.pre g B a len cap) (i := 6) (v := ?v6) rfl (by kernel_rfl) (by kernel_rfl) (by kernel_rfl) (by kernel_rfl) (fun _ _ _ h => h) (by rfl) ?hy6 ?rest6
            case hy6 => (intro x hx; obtain ⟨d0, d1, d2, d3, d4⟩ := HLE.out x hx; go_simp; try with_reducible rfl)
            try simp only [Act.put, List.setIfInBounds_toArray, List.set_cons_zero, List.set_cons_succ]
            refine wpE_val (Dr.pre g B a len cap) (i := 7) (v := ?v7) rfl (by kernel_rfl) (by kernel_rfl) (by kernel_rfl) (by kernel_rfl) (fun _ _ _ h => h) (by rfl) ?hy7 ?rest7
            case hy7 => (intro x hx; obtain ⟨d0, d1, d2, d3, d4⟩ := HLE.out x hx; go_simp; try with_reducible rfl)
            try simp only [Act.put, List.setIfInBounds_toArray, List.set_cons_zero, List.set_cons_succ]
            refine wpE_val (Dr.pre g B a len cap) (i := 8) (v := ?v8) rfl (by kernel_rfl) (by kernel_rfl) (by kernel_rfl) (by kernel_rfl) (fun _ _ _ h => h) (by rfl) ?hy8 ?rest8
            case hy8 => (intro x hx; obtain ⟨d0, d1, d2, d3, d4⟩ := HLE.out x hx; go_simp; try with_reducible rfl)
            try simp only [Act.put, List.setIfInBounds_toArray, List.set_cons_zero, List.set_cons_succ]
            refine wpE_val (Dr.pre g B a len cap) (i := 9) (v := ?v9) rfl (by kernel_rfl) (by kernel_rfl) (by kernel_rfl) (by kernel_rfl) (fun _ _ _ h => h) (by rfl) ?hy9 ?rest9
            case hy9 => (intro x hx; obtain ⟨d0, d1, d2, d3, d4⟩ := HLE.out x hx; go_simp; try with_reducible rfl)
            try simp only [Act.put, List.setIfInBounds_toArray, List.set_cons_zero, List.set_cons_succ]
            refine wpE_val (Dr.pre g B a len cap) (i := 10) (v := ?v10) rfl (by kernel_rfl) (by kernel_rfl) (by kernel_rfl) (by kernel_rfl) (fun _ _ _ h => h) (by rfl) ?hy10 ?rest10
            case hy10 => (intro x hx; obtain ⟨d0, d1, d2, d3, d4⟩ := HLE.out x hx; go_simp; try with_reducible rfl)
            try simp only [Act.put, List.setIfInBounds_toArray, List.set_cons_zero, List.set_cons_succ]
            refine wpE_onecall (f := 36) (args := #[.pointer (some ⟨g, 0, none⟩), .int .i64 9]) (i := 11) (by kernel_rfl) rfl (by rfl) (fun x hx => by go_simp) (fun x hx => ((HX.out.draw hx).sd.pick 9 (by omega)).mono ?_)
            rintro e w9 ⟨q, rfl, qq0, qq1, hd⟩
            refine ⟨_, rfl, hd, ?_⟩
            replace HX : Shut (DH w0 w9 g B a len cap S base hi gH gs 18) := ⟨(HX.out.draw hx).draw hd⟩
            have qq2 : q ≤ 9 := by omega
            clear hd hx HLE qq1
            try simp only [Act.put, List.setIfInBounds_toArray, List.set_cons_zero, List.set_cons_succ]
            obtain ⟨⟨pid, pup, pus⟩, pok, hps⟩ : ∃ H b, spoilX ⟨rid, rup, u9 :: us'⟩ u9.group u9.index q = (H, b) := ⟨_, _, rfl⟩
            have HS9 := Shut.mk (fun (x : World) (h : UnRow x (some ⟨ub0, uo0, none⟩) (u9 :: us')) => HSP.out q x h qq2)
            have HG9 := Shut.mk (HSG.out q)
            unfold HbPost at HS9
            rw [hps] at HS9 HG9
            dsimp only [hov] at HS9 HG9
            rw [← HRN.out] at HS9
            clear hps HSP HSG
            refine wpE_onecall (f := 47) (args := #[.agg #[.int .i64 rid, .bool rup, .slice (some ⟨ub0, uo0, none⟩) rn rc], .int .i64 u9.group, .int .i64 u9.index, .int .i64 q]) (i := 12) (by kernel_rfl) rfl (by rfl) (fun x hx => by go_simp) (fun x hx => (HS9.out x (HRW.out x (HX.out.draw hx))).mono ?_)
            rintro e y8 ⟨v8, c8, rfl, hF, hc8, hb8⟩
            refine ⟨_, rfl, ⟨gb_below hb8, fun q => q.below hb8⟩, ?_⟩
            have HX8 := Shut.mk ((HX.out.draw hx).below hb8)
            have hxs : hi ≤ x.heap.size := (HX.out.draw hx).hlt
            have hgx : g < x.heap.size := (HX.out.draw hx).sd.cur.2.1
            have HF8 : Shut (∀ z, Dr g B a len cap y8 z → FRw z v8 (unS pus) hi y8.heap.size) := ⟨fun z hz => frw_wide (rwS.loc v8 (unS pus) x.heap.size y8.heap.size y8 z g (g + 1) hF (Turned.of_grown hz.1 (Nat.le_refl g) (Nat.lt_succ_self g)) (.inr hgx)) hxs (Nat.le_refl _)⟩
            obtain ⟨hi8, hh8⟩ : ∃ q, q = y8.heap.size := ⟨_, rfl⟩
            rw [← hh8] at HF8
            have hhi8 : hi ≤ hi8 := by rw [hh8]; exact Nat.le_trans hxs hb8.size
            have HH8 := Shut.mk hh8
            clear hF hb8 hx HX hxs hgx hh8
            try simp only [Act.put, List.setIfInBounds_toArray, List.set_cons_zero, List.set_cons_succ]
            refine wpE_val (Dr.pre g B a len cap) (i := 13) (v := ?v13) rfl (by kernel_rfl) (by kernel_rfl) (by kernel_rfl) (by kernel_rfl) (fun _ _ _ h => h) (by rfl) ?hy13 ?rest13
            case hy13 => (intro x hx; go_simp; try with_reducible rfl)
            try simp only [Act.put, List.setIfInBounds_toArray, List.set_cons_zero, List.set_cons_succ]
            refine wpE_pure (Dr.pre g B a len cap) (i := 14) (v := ?v14) rfl (by kernel_rfl) (by kernel_rfl) (by kernel_rfl) (by kernel_rfl) (fun _ _ _ h => h) (by rfl) ?hy14 ?rest14
            case hy14 => (intro x; go_simp; try with_reducible rfl)
            try simp only [Act.put, List.setIfInBounds_toArray, List.set_cons_zero, List.set_cons_succ]
            refine wpE_pure (Dr.pre g B a len cap) (i := 15) (v := ?v15) rfl (by kernel_rfl) (by kernel_rfl) (by kernel_rfl) (by kernel_rfl) (fun _ _ _ h => h) (by rfl) ?hy15 ?rest15
            case hy15 => (intro x; go_simp; try with_reducible rfl)
            try simp only [Act.put, List.setIfInBounds_toArray, List.set_cons_zero, List.set_cons_succ]
            refine wpE_tail (by kernel_rfl) ?_
            intro x5 hx5
            refine wpA_val (i := 16) (v := .pointer (some ⟨gH, k * 3, none⟩)) rfl (by kernel_rfl) (by kernel_rfl) (by kernel_rfl) (fun _ _ _ h => h) (by rfl) (fun x => by go_simp) ?_
            try simp only [Act.put, List.setIfInBounds_toArray, List.set_cons_zero, List.set_cons_succ]
            have HX5 := Shut.mk (HX8.out.draw hx5)
            have HN5 := Shut.mk (HX5.out.host k hkg ⟨pid, pup, pus⟩ v8 c8 hi8 (HF8.out x5 hx5) hhi8 (by rw [HH8.out]; exact hx5.1.size) hc8 (by show pid = _; rw [← HRE.out.1]; exact HG9.out.1) HG9.out.2)
            have hwo := HX5.out.gw.out
            obtain ⟨t0, s0⟩ := hwo.2 (k * 3) _ (flat_get hC_len gs k hkg 0 (by omega))
            obtain ⟨t1, s1⟩ := hwo.2 (k * 3 + 1) _ (flat_get hC_len gs k hkg 1 (by omega))
            obtain ⟨t2, s2⟩ := hwo.2 (k * 3 + 2) _ (flat_get hC_len gs k hkg 2 (by omega))
            unfold hC at HN5
            dsimp only at HN5
            rw [setW3] at HN5
            clear hwo hx5
            refine wpA_step (y := ((x5.setCell ⟨gH, k * 3, none⟩ (.int .i64 pid)).setCell ⟨gH, k * 3 + 1, none⟩ (.bool pup)).setCell ⟨gH, k * 3 + 2, none⟩ (.slice v8 pus.length c8)) (i := 17) (by kernel_rfl) rfl (by rfl) (by go_simp) ?_
            simp only [Act.put]
            refine wpA_done (by kernel_rfl) ?_ _
            clear t0 t1 t2 s0 s1 s2 HX5 HX8
            go_wp2_with fail
            go_roundw
            case rel => exact ⟨i + 1, _, _, by go_num, by omega, HN5⟩
            case measure => simp [intOf]; omega
          · go_returns
            exact ⟨gH, cH, gs, s, t, hi, rfl, hs1.1, hs1.2, ht, by rw [← HBA.out]; exact HD3.out⟩
end Go.Proofs.Ytoaifodmjkhiiaa
/- DrHu: The draw of hosts from a code. -/
namespace Go.Proofs.Ytoaifodmjkhiiaa
set_option maxRecDepth 100000
open Go.RowKit BigFrame
attribute [local go_sem ↓] Go.wp_at_zero Go.wp_at_succ

/-- Seven good hosts in memory of the call's own, a schema, a text. -/
def HostsDrawn (w : World) (e : Ending) (w' : World) : Prop :=
  ∃ gH c gs s t, e = .returned (.tuple #[.slice (some ⟨gH, 0, none⟩) 7 c, .int .i64 s, .int .i64 1, .string t]) ∧ 1 ≤ s ∧ s ≤ 3 ∧ t.size ≤ 200 ∧ WG w w' gH gs 18
theorem DH.wg {w W : World} {g B len cap base hi gH m : Nat} {a : Option Addr} {S : List Str} {gs : List HoR} (h : DH w W g B a len cap S base hi gH gs m) : WG w W gH gs m := ⟨h.sd.sl.bel, h.gw.wide h.blt h.hlt, h.caps, h.good⟩
set_option maxRecDepth 100000 in
set_option maxHeartbeats 1000000 in
theorem drawHosts_any (w : World) (a : Option Addr) (len cap : Nat) (hc : CodeAt w w.heap.size a len) :
    Calls Try.prog 21 #[.slice a len cap] w fun e w' => HostsDrawn w e w' := by
  have HC := Shut.mk hc
  clear hc
  go_enter Try.func21, Try.ntmps21
  go_wp2_with fail
  refine (l01New_any w a len cap HC.out).mono ?_
  rintro e w1 ⟨g, rfl, hg, hcur, hb⟩
  have HS : Shut (SD w w1 g w.heap.size a len cap []) := ⟨⟨(SL.start w).below hb, hcur, fun s hs => (by cases hs), hg, Nat.le_refl _⟩⟩
  clear hcur hb
  go_wp2_with fail
  refine (l15Hosts_any w w1 g w.heap.size a len cap [] HS.out).mono ?_
  rintro e w2 ⟨gH, c, gs, s, t, hi, rfl, hs1, hs3, ht, hd⟩
  have HD := Shut.mk hd.wg
  clear hd
  go_wp2_with fail
  go_returns
  exact ⟨gH, c, gs, s, t, rfl, hs1, hs3, ht, HD.out⟩
end Go.Proofs.Ytoaifodmjkhiiaa
/- FndA: The laws' own tests whether a number is in a list, and whether a text begins another: at every argument. -/
namespace Go.Proofs.Ytoaifodmjkhiiaa
set_option maxRecDepth 100000
open Go.RowKit
attribute [local go_sem ↓] Go.wp_at_zero Go.wp_at_succ

set_option maxRecDepth 100000 in
set_option maxHeartbeats 1000000 in
theorem in_any {w : World} {a : Option Addr} {xs : List Int} (cap : Nat) (x : Int) (hr : CRow w a (ics xs)) (hl : xs.length ≤ 1048576) : Calls Try.prog 23 #[.slice a xs.length cap, .int .i64 x] w fun e w' => e = .returned (.bool (xs.contains x)) ∧ w' = w := by
  obtain ⟨n, hn⟩ : ∃ n, n = xs.length := ⟨_, rfl⟩
  obtain ⟨R, hR⟩ : ∃ R, R = xs.contains x := ⟨_, rfl⟩
  rw [← hn] at hl ⊢
  rw [← hR]
  have HN := Shut.mk hn
  have HR := Shut.mk hr
  have HRR := Shut.mk hR
  clear hn hr hR
  go_enter Try.func23, Try.ntmps23
  go_wp2_with fail
  go_loopw [5] (fun i wr => ∃ k : Nat, i = .int .i64 k ∧ k ≤ n ∧ Shut (∀ j (hj : j < xs.length), j < k → xs[j] ≠ x) ∧ wr = w) (fun i _ => n - (intOf i).toNat)
  case atStart => exact ⟨0, rfl, Nat.zero_le _, ⟨fun _ _ h => absurd h (Nat.not_lt_zero _)⟩, rfl⟩
  case round =>
    obtain ⟨k, rfl, hk, hno, rfl⟩ := hrel
    by_cases hlt : k < n
    · have hkx : k < xs.length := by rw [← HN.out]; exact hlt
      obtain ⟨b, off, rfl, lb, hc⟩ := HR.out (by simp [ics]; omega)
      have e0 := hc k (.int .i64 xs[k]) (by simp [ics, hkx])
      have k0 : (0 : Int) ≤ (k : Int) := by omega
      have k1 : (k : Int) < (n : Int) := by omega
      obtain ⟨y, hy⟩ : ∃ y, y = xs[k] := ⟨_, rfl⟩
      rw [← hy] at e0
      have HY := Shut.mk hy
      clear hc hy
      by_cases hxy : y = x
      · have hxy' : (y == x) = true := by simp [hxy]
        have HC : Shut (R = true) := ⟨by rw [HRR.out, ← hxy, HY.out]; simp⟩
        clear hxy
        go_wp2_with fail
        go_ret
        exact ⟨by rw [HC.out]; rfl, rfl⟩
      · go_wp2_with fail
        go_roundw
        case rel =>
          refine ⟨k + 1, by go_num, by omega, ⟨fun j hj hjk => ?_⟩, trivial⟩
          rcases Nat.lt_succ_iff_lt_or_eq.1 hjk with h | h
          · exact hno.out j hj h
          · subst h
            rw [← HY.out]
            exact fun e => hxy e
        case measure => simp [intOf]; omega
    · have hlt' : ¬ (k : Int) < (n : Int) := by omega
      have HC : Shut (R = false) := ⟨by
        rw [HRR.out]
        refine Bool.eq_false_iff.2 fun hc => ?_
        simp only [List.contains_iff_mem] at hc
        obtain ⟨j, hj, e⟩ := List.mem_iff_getElem.1 hc
        exact hno.out j hj (by have := HN.out; omega) e⟩
      go_wp2_with fail
      go_ret
      exact ⟨by rw [HC.out]; rfl, rfl⟩
theorem lb_ext (s : ByteArray) (n : Nat) : lb (s.extract 0 n) = (lb s).take n := by
  simp [lb, ByteArray.data_extract, Array.toList_extract]
theorem lb_len (s : ByteArray) : (lb s).length = s.size := rfl
end Go.Proofs.Ytoaifodmjkhiiaa
