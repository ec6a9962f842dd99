/- The program's own SplitPath. -/
import Derived.Test.YtendbipfmgnjkaaPaJ
import Derived.Test.YtendbipfmgnjkaaOffB
import Derived.Test.YtendbipfmgnjkaaShelf
namespace Go.Proofs.Ytendbipfmgnjkaa
set_option maxRecDepth 100000
open Go.RowKit
open Go.PlainAid (bt)
attribute [local go_sem ↓] Go.wp_at_zero Go.wp_at_succ

theorem split_parts {p x : ByteArray} {L : List ByteArray} (hp : p ≠ ⟨#[47]⟩) (h : (segs (lb p)).map ba = x :: L) : splitB p = if x.size = 0 ∧ 1 ≤ L.length ∧ L.length ≤ 4 ∧ (∀ s ∈ L, nameB s = true) then (L, true) else ([], false) := by
  unfold splitB
  cases e : lb p with
  | nil =>
    rw [e] at h
    simp only [segs, List.map_cons, List.map_nil, List.cons.injEq] at h
    rw [← h.2, if_neg (fun q => by have := q.2.1; simp at this)]
    rfl
  | cons c r =>
    rw [e] at h
    by_cases hc : c = 47
    · subst hc
      have hr : r ≠ [] := fun q => by
        subst q
        apply hp
        have := congrArg ba e
        rwa [ba_lb] at this
      have e1 : segs (47 :: r) = [] :: segs r := by simp [segs]
      rw [e1, List.map_cons, List.cons.injEq] at h
      obtain ⟨h1, h2⟩ := h
      have hx : x.size = 0 := by rw [← h1]; rfl
      have hlen : L.length = (segs r).length := by rw [← h2, List.length_map]
      have hpos : 1 ≤ L.length := by
        rw [hlen]
        exact List.length_pos_iff.2 (segs_ne r)
      have hall : (∀ s ∈ L, nameB s = true) ↔ (segs r).all nameL = true := by
        rw [← h2, List.all_eq_true]
        constructor
        · intro q l hl
          have := q (ba l) (List.mem_map.2 ⟨l, hl, rfl⟩)
          unfold nameB at this
          rwa [lb_ba] at this
        · intro q s hs
          obtain ⟨l, hl, rfl⟩ := List.mem_map.1 hs
          unfold nameB
          rw [lb_ba]
          exact q l hl
      have es : splitP (47 :: r) = if (segs r).all nameL = true ∧ (segs r).length ≤ 4 then (segs r, true) else ([], false) := by
        unfold splitP
        simp only
        rw [if_pos trivial, if_neg hr]
      rw [es]
      by_cases q : (segs r).all nameL = true ∧ (segs r).length ≤ 4
      · rw [if_pos q, if_pos ⟨hx, hpos, by omega, hall.2 q.1⟩]
        simp only
        rw [h2]
      · rw [if_neg q, if_neg (fun k => q ⟨hall.1 k.2.2.2, by have := k.2.2.1; omega⟩)]
        rfl
    · have e2 : splitP (c :: r) = ([], false) := by unfold splitP; exact if_neg hc
      rw [e2]
      obtain ⟨y, t, ht⟩ : ∃ y t, segs r = y :: t := by
        cases q : segs r with
        | nil => exact absurd q (segs_ne r)
        | cons y t => exact ⟨y, t, rfl⟩
      rw [segs_cons hc ht, List.map_cons, List.cons.injEq] at h
      have hx : x.size ≠ 0 := by
        rw [← h.1]
        show (c :: y).toArray.size ≠ 0
        simp
      rw [if_neg (fun k => hx k.1)]
      rfl
theorem parts_ne (p : ByteArray) : ∃ x L, (segs (lb p)).map ba = x :: L := by
  cases q : segs (lb p) with
  | nil => exact absurd q (segs_ne _)
  | cons y t => exact ⟨ba y, t.map ba, rfl⟩
theorem strClone9 (s : ByteArray) (w : World) (h : s.size ≤ 281474976710656) : Calls Try.prog 49 #[.string s] w fun e w' => e = .returned (.string s) ∧ Below w.heap.size w w' := by
  go_enter Try.func49, Try.ntmps49
  go_wp2_with fail
  refine (Try.stringslite_Clone s _ h).mono ?_
  rintro e w1 ⟨rfl, hb⟩
  go_wp2_with fail
  go_ret
  exact ⟨rfl, hb⟩
theorem OwnAt.same {w : World} {base g off n cap k : Nat} {L : List ByteArray} (h : OwnAt w base (.slice (some ⟨g, off, none⟩) n cap) n L) (hk : k < L.length) : OwnAt (w.setCell ⟨g, off + k, none⟩ (.string (L.getD k ⟨#[]⟩))) base (.slice (some ⟨g, off, none⟩) n cap) n L := by
  obtain ⟨hl, h | ⟨g', off', cap', e, hb, hn, hf, hc⟩⟩ := h
  · cases h.1
  · cases e
    have hs := hc.set k (L.getD k ⟨#[]⟩) hk
    have e2 : L.set k (L.getD k ⟨#[]⟩) = L := by
      have : L.getD k ⟨#[]⟩ = L[k] := by simp [List.getD, hk]
      rw [this]
      exact List.set_getElem_self hk
    rw [e2] at hs
    exact ⟨hl, .inr ⟨g, off, cap, rfl, hb, hn, fun j hj => ⟨isSome_set (hf j hj).1, (World.frozen?_setCell _ _ _ _).trans (hf j hj).2⟩, hs⟩⟩
theorem seg_small (p : ByteArray) : ∀ s ∈ (segs (lb p)).map ba, s.size ≤ p.size := by
  have h : ∀ (l : List UInt8), ∀ t ∈ segs l, t.length ≤ l.length := by
    intro l
    induction l with
    | nil => intro t ht; simp [segs] at ht; subst ht; simp
    | cons c r ih =>
      intro t ht
      unfold segs at ht
      split at ht
      · rcases List.mem_cons.1 ht with rfl | q
        · simp
        · have := ih t q; simp; omega
      · split at ht
        · rename_i q; exact absurd q (segs_ne r)
        · rename_i y u q
          rcases List.mem_cons.1 ht with rfl | k
          · have := ih y (by rw [q]; simp); simp; omega
          · have := ih t (by rw [q]; simp [k]); simp; omega
  intro s hs
  obtain ⟨l, hl, rfl⟩ := List.mem_map.1 hs
  exact h _ l hl
set_option maxRecDepth 100000 in
set_option maxHeartbeats 2000000 in
theorem implSplitPath (p : ByteArray) (w : World) (hs : p.size ≤ 1048576) : Calls Try.prog 100 #[.string p] w fun e w' => QPost (splitB p) w e w' := by
  by_cases h1 : p = ⟨#[47]⟩
  · have HE := Shut.mk (splitB_one h1)
    have h1' : (p.toList == [47]) = true := by rw [h1, Go.ByteArray.toList_eq]; rfl
    have HP := Shut.mk h1
    clear h1
    go_enter Try.func100, Try.ntmps100
    go_wp2_with fail
    go_ret2
    exact QPost.none HE.out (Below.refl _ _)
  have h1' : (p.toList == [47]) = false := by
    rw [beq_eq_false_iff_ne]
    intro e
    rw [Go.ByteArray.toList_eq] at e
    exact h1 (ByteArray.ext (Array.toList_inj.1 e))
  have HB0 := Shut.mk (fun W => implBetween p W hs)
  obtain ⟨x, L, hxl⟩ := parts_ne p
  have hsm := seg_small p
  have hsp := split_parts h1 hxl
  have hln : (segs (lb p)).length = L.length + 1 := by
    have := congrArg List.length hxl
    rwa [List.length_map, List.length_cons] at this
  rw [hln, hxl] at HB0
  rw [hxl] at hsm
  have HSM := Shut.mk hsm
  have HSP := Shut.mk hsp
  clear h1 hxl hsm hsp hln
  obtain ⟨n, hn⟩ : ∃ n, n = L.length := ⟨_, rfl⟩
  rw [← hn] at HB0 HSP
  have HN := Shut.mk hn
  clear hn
  go_enter Try.func100, Try.ntmps100
  go_wp2_with fail
  refine (HB0.out _).mono ?_
  rintro e w1 ⟨v, rfl, hown, hb⟩
  obtain ⟨g, cap, rfl, hcap⟩ := own_some9 hown (by omega)
  have HB := Shut.mk hb
  have hw := own_wcells hown
  have c0 := (hw.2 0 (.string x) rfl).1
  have HOT := Shut.mk (own_tail hown)
  have z1 := hb.size
  clear hb hw hown HB0
  by_cases hx : x.size = 0
  case neg =>
    have hx1 : (x.toList != []) = true := by
      rw [bne_iff_ne]
      intro q
      rw [Go.ByteArray.toList_eq] at q
      exact hx (show x.data.size = 0 by rw [← Array.length_toList, q]; rfl)
    have hx2 : ¬ x.toList = [] := bne_iff_ne.1 hx1
    have HE : Shut (splitB p = ([], false)) := ⟨by rw [HSP.out, if_neg (fun q => hx q.1)]⟩
    clear HSP hx
    by_cases hc1 : cap = 1
    all_goals
      go_wp2_with fail
      go_quiet (fail)
      go_wp2_with fail
      go_ret2
      exact QPost.none HE.out (below_drewN HB.out _)
  have hx1 : (x.toList != []) = false := by
    rw [bne_eq_false_iff_eq, Go.ByteArray.toList_eq]
    exact List.eq_nil_of_length_eq_zero (by rw [Array.length_toList]; exact hx)
  have hx2 : x.toList = [] := by rwa [bne_eq_false_iff_eq] at hx1
  by_cases hn1 : (n : Int) < 1
  · have HE : Shut (splitB p = ([], false)) := ⟨by rw [HSP.out, if_neg (fun q => by have := q.2.1; omega)]⟩
    have hn5 : ¬ (1 : Int) ≤ (n : Int) := by omega
    clear HSP hx
    by_cases hc1 : cap = 1
    all_goals
      go_wp2_with fail
      go_quiet (fail)
      go_wp2_with fail
      go_ret2
      exact QPost.none HE.out (below_drewN HB.out _)
  by_cases hn4 : (4 : Int) < (n : Int)
  · have HE : Shut (splitB p = ([], false)) := ⟨by rw [HSP.out, if_neg (fun q => by have := q.2.2.1; omega)]⟩
    have hn5 : (1 : Int) ≤ (n : Int) := by omega
    have hn6 : ¬ (n : Int) ≤ 4 := by omega
    clear HSP hx
    by_cases hc1 : cap = 1
    all_goals
      go_wp2_with fail
      go_quiet (fail)
      go_wp2_with fail
      go_ret2
      exact QPost.none HE.out (below_drewN HB.out _)
  have hc1 : ¬ cap = 1 := by omega
  have hn5 : (1 : Int) ≤ (n : Int) := by omega
  have hn6 : (n : Int) ≤ 4 := by omega
  have HE : Shut (splitB p = if (∀ s ∈ L, nameB s = true) then (L, true) else ([], false)) := ⟨by
    rw [HSP.out]
    by_cases q : ∀ s ∈ L, nameB s = true
    · rw [if_pos q, if_pos ⟨hx, by omega, by omega, q⟩]
    · rw [if_neg q, if_neg (fun k => q k.2.2.2)]⟩
  clear HSP hx
  go_wp2_with fail
  go_quiet (fail)
  go_wp2_with fail
  go_loopw [32] (fun i wr => ∃ (k : Nat), i = .int .i64 k ∧ k ≤ n ∧ Shut (∀ j, j < k → nameB (L.getD j ⟨#[]⟩) = true) ∧ Shut (OwnAt wr w.heap.size (.slice (some ⟨g, 1, none⟩) n (cap - 1)) n L) ∧ Shut (Below w.heap.size w wr)) (fun i _ => n - (intOf i).toNat)
  case atStart => exact ⟨0, rfl, Nat.zero_le _, ⟨fun j hj => by omega⟩, ⟨HOT.out.kept (Nat.le_refl _) (fun _ _ => rfl)⟩, ⟨below_drewN HB.out _⟩⟩
  case round =>
    clear HOT HB c0
    obtain ⟨k, rfl, hk, hall, hown, hbl⟩ := hrel
    by_cases hlt : k < n
    · have hkL : k < L.length := by have := HN.out; omega
      obtain ⟨_, q | ⟨g', off', cap', e', hgb, hnc, hf, hoc⟩⟩ := hown.out
      · cases q.1
      cases e'
      have c1 := (hoc.2 k hkL).1
      have c2 := (hoc.2 k hkL).2
      have hg := hoc.1
      have hB := hbl.out.size
      have k0 : (0 : Int) ≤ (k : Int) := by omega
      have k1 : (k : Int) < (n : Int) := by omega
      have hmem : L.getD k ⟨#[]⟩ ∈ L := by simp [List.getD, hkL]
      have hsz : (L.getD k ⟨#[]⟩).size ≤ 1048576 := by have := HSM.out _ (List.mem_cons_of_mem x hmem); omega
      have HNA := Shut.mk (fun W => implNameOk (L.getD k ⟨#[]⟩) W hsz)
      have HCL := Shut.mk (fun W => strClone9 (L.getD k ⟨#[]⟩) W (by omega))
      clear hf hoc
      cases hnm : nameB (L.getD k ⟨#[]⟩) with
      | false =>
        have HF : Shut (splitB p = ([], false)) := ⟨by rw [HE.out, if_neg (fun q => by have := q _ hmem; rw [hnm] at this; cases this)]⟩
        rw [hnm] at HNA
        generalize L.getD k ⟨#[]⟩ = y at *
        clear hnm hmem HCL HE
        go_wp2_with fail
        refine (HNA.out _).mono ?_
        rintro e w2 ⟨rfl, hb2⟩
        have HB2 := Shut.mk (hbl.out.trans (hb2.mono hbl.out.size))
        clear hb2
        go_wp2_with fail
        go_ret2
        exact QPost.none HF.out HB2.out
      | true =>
        have HA : Shut (∀ j, j < k + 1 → nameB (L.getD j ⟨#[]⟩) = true) := ⟨fun j hj => by
          by_cases e : j = k
          · subst e; exact hnm
          · exact hall.out j (by omega)⟩
        have HSA := Shut.mk (fun W (q : OwnAt W w.heap.size (.slice (some ⟨g, 1, none⟩) n (cap - 1)) n L) => q.same hkL)
        rw [hnm] at HNA
        generalize L.getD k ⟨#[]⟩ = y at *
        clear hnm hmem HE hall
        go_wp2_with fail
        refine (HNA.out _).mono ?_
        rintro e w2 ⟨rfl, hb2⟩
        have HB2 := Shut.mk (hbl.out.trans (hb2.mono hbl.out.size))
        have HO2 := Shut.mk (hown.out.below hb2)
        rw [← hb2.cell (p := ⟨g, 1 + k, none⟩) hg] at c1
        rw [← hb2.frozen (p := ⟨g, 1 + k, none⟩) hg] at c2
        have hg2 := Nat.lt_of_lt_of_le hg hb2.size
        clear hb2 HNA hown hbl
        go_wp2_with fail
        refine (HCL.out _).mono ?_
        rintro e w3 ⟨rfl, hb3⟩
        have HB3 := Shut.mk (HB2.out.trans (hb3.mono HB2.out.size))
        have HO3 := Shut.mk (HO2.out.below hb3)
        rw [← hb3.cell (p := ⟨g, 1 + k, none⟩) hg2] at c1
        rw [← hb3.frozen (p := ⟨g, 1 + k, none⟩) hg2] at c2
        have hg3 := Nat.lt_of_lt_of_le hg2 hb3.size
        clear hb3 HCL HO2 HB2
        have HO4 := Shut.mk (HSA.out _ HO3.out)
        have HB4 := Shut.mk (HB3.out.grown (grownBy_setCell w3 g (1 + k) (.string y)) HB3.out.size (fun j hj => by cases hj; exact hgb))
        clear HO3 HB3 HSA
        go_wp2_with fail
        go_roundw
        case rel => exact ⟨k + 1, by go_num, by omega, HA, HO4, HB4⟩
        case measure => simp [intOf]; omega
    · have HF : Shut (splitB p = (L, true)) := ⟨by
        rw [HE.out, if_pos (fun s hs => ?_)]
        obtain ⟨j, hj, rfl⟩ := List.mem_iff_getElem.1 hs
        have := hall.out j (by have := HN.out; omega)
        simpa [List.getD, hj] using this⟩
      have k1 : ¬ (k : Int) < (n : Int) := by omega
      clear hall HE
      go_wp2_with fail
      go_ret2
      unfold QPost
      rw [HF.out]
      exact ⟨_, rfl, by rw [← HN.out]; exact hown.out, hbl.out⟩
end Go.Proofs.Ytendbipfmgnjkaa
