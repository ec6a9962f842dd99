/- The program's own JoinPath and ParentPath; all four together. -/
import Derived.Test.YtendbipfmgnjkaaPaK
import Derived.Test.YtendbipfmgnjkaaLawPts
namespace Go.Proofs.Ytendbipfmgnjkaa
set_option maxRecDepth 100000
open Go.RowKit
open Go.PlainAid (bt)
attribute [local go_sem ↓] Go.wp_at_zero Go.wp_at_succ

theorem lib_join (L : List (List UInt8)) : (47 :: Lib.join L [47]) = joinP L := by
  cases L with
  | nil => rfl
  | cons x L =>
    unfold joinP
    rw [if_neg (by simp)]
    induction L generalizing x with
    | nil => simp [Lib.join]
    | cons y L ih =>
      have := ih y
      simp only [List.map_cons, List.flatten_cons, List.cons_append, List.cons.injEq, true_and] at this ⊢
      rw [← this]
      simp [Lib.join]
theorem joinP_len (L : List ByteArray) (h : TFit L) : (Lib.join (L.map lb) [47]).length ≤ 2097152 := by
  have e := congrArg List.length (lib_join (L.map lb))
  have := join_size h
  have hb : (joinB L).size = (joinP (L.map lb)).length := by
    unfold joinB
    show (joinP (L.map lb)).toArray.size = _
    simp
  rw [List.length_cons] at e
  omega
set_option maxRecDepth 100000 in
set_option maxHeartbeats 1000000 in
theorem implJoinPath (w : World) (u : Value) (L : List ByteArray) (lo hi : Nat) (hu : CSee w u L lo hi) (hf : TFit L) : Calls Try.prog 101 #[u] w fun e w' => e = .returned (.string (joinB L)) ∧ Below w.heap.size w w' := by
  obtain ⟨a, cap, rfl, hc, hr⟩ := hu
  have hjl := joinP_len L hf
  have HJ : Shut (joinB L = (⟨#[47]⟩ : ByteArray) ++ ⟨(Lib.join (L.map lb) [47]).toArray⟩) := ⟨by
    unfold joinB
    rw [← lib_join]
    apply ByteArray.ext
    simp⟩
  by_cases h0 : L = []
  · subst h0
    have HN := Shut.mk (fun W => Try.strings_Join_none a cap ⟨#[47]⟩ W)
    clear hr hf hjl
    go_enter Try.func101, Try.ntmps101
    go_wp2_with fail
    refine (HN.out _).mono ?_
    rintro e w1 ⟨rfl, hw⟩
    subst hw
    go_wp2_with fail
    go_ret
    exact ⟨rfl, Below.refl _ _⟩
  · obtain ⟨b, off, rfl, hb, hcs⟩ := units_at hr (List.length_pos_iff.2 h0)
    have hn : L.length ≤ 1048576 := by unfold TFit at hf; omega
    have HN := Shut.mk (Try.strings_Join b off cap L ⟨#[47]⟩ w (fun j x hx => by
      obtain ⟨hj, e⟩ := List.getElem?_eq_some_iff.1 hx
      have := hcs j hj
      rw [this]
      simp [List.getD, hj, e]) hb (by omega) hc (by
        show (Lib.join (L.map lb) [47]).length ≤ _
        omega))
    have hsz : ((⟨(Lib.join (L.map lb) [47]).toArray⟩ : ByteArray)).size ≤ 2097152 := by
      show (Lib.join (L.map lb) [47]).toArray.size ≤ _
      simpa using hjl
    have HN' : Shut (Calls Try.prog 116 #[.slice (some ⟨b, off, none⟩) L.length cap, .string ⟨#[47]⟩] w fun e w' => e = .returned (.string ⟨(Lib.join (L.map lb) [47]).toArray⟩) ∧ Below w.heap.size w w') := HN
    generalize (⟨(Lib.join (L.map lb) [47]).toArray⟩ : ByteArray) = J at *
    clear hr hf hjl hcs HN h0
    go_enter Try.func101, Try.ntmps101
    go_wp2_with fail
    refine HN'.out.mono ?_
    rintro e w1 ⟨rfl, hb1⟩
    go_wp2_with fail
    go_ret
    exact ⟨by rw [HJ.out]; rfl, hb1⟩
theorem OwnAt.form {w : World} {base n : Nat} {v : Value} {L : List ByteArray} (h : OwnAt w base v n L) : ∃ a cap, v = .slice a n cap := by
  obtain ⟨_, ⟨e, h0⟩ | ⟨g, off, cap, e, _⟩⟩ := h
  · exact ⟨none, 0, by rw [e, h0]⟩
  · exact ⟨_, cap, e⟩
theorem OwnAt.some' {w : World} {base n : Nat} {v : Value} {L : List ByteArray} (h : OwnAt w base v n L) (hp : 0 < n) : ∃ g off cap, v = .slice (some ⟨g, off, none⟩) n cap ∧ n ≤ cap ∧ g < w.heap.size ∧ ∀ j, j < L.length → w.cell? ⟨g, off + j, none⟩ = some (.string (L.getD j ⟨#[]⟩)) := by
  obtain ⟨_, ⟨_, h0⟩ | ⟨g, off, cap, e, _, hn, _, hc⟩⟩ := h
  · omega
  · exact ⟨g, off, cap, e, hn, hc.1, fun j hj => (hc.2 j hj).1⟩
theorem CSee.below {w w' : World} {v : Value} {L : List ByteArray} {lo hi : Nat} (h : CSee w v L lo hi) (hb : Below w.heap.size w w') : CSee w' v L lo hi := by
  obtain ⟨a, cap, e, hc, hr⟩ := h
  obtain ⟨a', cap', e', hr'⟩ := (show SSee w v L lo hi from ⟨a, cap, e, hr⟩).below hb
  rw [e] at e'
  cases e'
  exact ⟨a, cap, e, hc, hr'⟩
set_option maxRecDepth 100000 in
set_option maxHeartbeats 2000000 in
theorem implParentPath (p : ByteArray) (w : World) (hs : p.size ≤ 1048576) : Calls Try.prog 88 #[.string p] w fun e w' => ParPost p w e w' := by
  have HS := Shut.mk (fun W => implSplitPath p W hs)
  have hnm := splitB_names p
  unfold QPost at HS
  unfold ParPost
  obtain ⟨L, ok, hre⟩ : ∃ L ok, splitB p = (L, ok) := ⟨_, _, rfl⟩
  rw [hre] at HS hnm
  have HN := Shut.mk hnm
  clear hnm
  cases ok with
  | false =>
    rw [parent_no hre (.inl rfl)]
    clear hre
    go_enter Try.func88, Try.ntmps88
    go_wp2_with fail
    refine (HS.out _).mono ?_
    rintro e w1 ⟨v, rfl, ho, hb⟩
    obtain ⟨a, cap, rfl⟩ := ho.form
    have HB := Shut.mk hb
    clear ho hb
    go_wp2_with fail
    go_ret3
    exact ⟨rfl, HB.out⟩
  | true =>
    rcases List.eq_nil_or_concat L with rfl | ⟨I, x, rfl⟩
    · rw [parent_no hre (.inr rfl)]
      clear hre
      go_enter Try.func88, Try.ntmps88
      go_wp2_with fail
      refine (HS.out _).mono ?_
      rintro e w1 ⟨v, rfl, ho, hb⟩
      obtain ⟨a, cap, rfl⟩ := ho.form
      have HB := Shut.mk hb
      clear ho hb
      go_wp2_with fail
      go_ret3
      exact ⟨rfl, HB.out⟩
    · rw [List.concat_eq_append] at *
      rw [parent_yes hre]
      obtain ⟨J, hJ⟩ : ∃ J, J = joinB I := ⟨_, rfl⟩
      have HJE := Shut.mk hJ
      rw [← hJ]
      clear hJ
      have h4 := HN.out.2
      have HF : Shut (TFit I) := ⟨names_fit (fun s h => HN.out.1 s (List.mem_append.2 (.inl h))) (by rw [List.length_append] at h4; omega)⟩
      obtain ⟨m, hm⟩ : ∃ m, m = I.length := ⟨_, rfl⟩
      have HM := Shut.mk hm
      have hm4 : m ≤ 4 := by rw [List.length_append] at h4; omega
      rw [show (I ++ [x], true).1.length = m + 1 by simp [hm]] at HS
      clear hre h4 hm
      go_enter Try.func88, Try.ntmps88
      go_wp2_with fail
      refine (HS.out _).mono ?_
      rintro e w1 ⟨v, rfl, ho, hb⟩
      obtain ⟨g, off, cap, rfl, hcap, hg, hcs⟩ := ho.some' (by omega)
      have d0 : w1.cell? ⟨g, off + m, none⟩ = some (.string x) := by
        rw [hcs m (by rw [List.length_append, HM.out]; simp)]
        simp [List.getD, HM.out]
      have hsee : CSee w1 (.slice (some ⟨g, off, none⟩) m cap) I 0 w1.heap.size := ⟨_, cap, by rw [HM.out], by rw [← HM.out]; omega, fun _ => ⟨g, off, rfl, Nat.zero_le _, hg, hg, fun i u hu => by
        have hi : i < I.length := by
          have := (List.getElem?_eq_some_iff.1 hu).1
          rwa [tv_len] at this
        rw [tv_get I i hi] at hu
        cases hu
        rw [hcs i (by rw [List.length_append]; omega)]
        simp [List.getD, List.getElem?_append_left hi]⟩⟩
      have HJ := Shut.mk (fun W (hW : Below w1.heap.size w1 W) => implJoinPath W _ _ _ _ (hsee.below hW) HF.out)
      have HB := Shut.mk hb
      have hm0 : (((m + 1 : Nat) : Int) == 0) = false := by rw [beq_eq_false_iff_ne]; omega
      obtain ⟨n, hn⟩ : ∃ n, n = m + 1 := ⟨_, rfl⟩
      rw [← hn] at hcap hm0 ⊢
      have hnm : (n : Int) - 1 = (m : Int) := by omega
      have hmn : (m : Int) < (n : Int) := by omega
      have hmc : (m : Int) ≤ (cap : Int) := by omega
      have hm9 : (0 : Int) ≤ (m : Int) := by omega
      have hwr : IntKind.i64.wrap ((n : Int) - 1) = (m : Int) := by rw [hnm]; exact IntWalk.i64_in _ ⟨by omega, by omega⟩
      rw [← HJE.out] at HJ
      clear ho hb hcs hsee hn HN HM hnm
      go_wp2_with fail
      go_region_held3 (fun w' => w'.cell? ⟨g, off + m, none⟩ = some (.string x))
        (first | assumption | (exact (hb9.cell (p := ⟨g, off + m, none⟩) hg).trans (by assumption)) | go_keep)
        (first | (go_at_call 101; refine (HJ.out _ (by first | exact Below.refl _ _ | exact Below.drew (Below.refl _ _))).mono ?_; rintro e w9 ⟨rfl, hb9⟩))
      all_goals
        go_wp2_with fail
        go_ret3
        exact ⟨rfl, by first | exact HB.out.trans (hb9.mono HB.out.size) | exact HB.out.trans (((Below.drew (Below.refl w1.heap.size w1)).trans hb9).mono HB.out.size)⟩
theorem pathsAll : PathsAll := ⟨implNameOk, implSplitPath, implJoinPath, implParentPath⟩
end Go.Proofs.Ytendbipfmgnjkaa
