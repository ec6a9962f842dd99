/- Texts of ours, laid one behind the other: FrT, OpenC, LawPts, PaL, HasN, SpnB, StI, SchQ, EdP, EdD, EdQ, AkK. -/
import Derived.Test.YtodgabdhgaglmaaPa5
import Derived.OpenShut
import Derived.Deep.AppendLies
import Derived.Deep.RegionHeld3
/- FrT: The laws' own comparison of two rows of texts. -/
namespace Go.Proofs.Ytodgabdhgaglmaa
set_option maxRecDepth 100000
open Go.RowKit

end Go.Proofs.Ytodgabdhgaglmaa
/- OpenC: The code that a drawn law is handed: what came in. -/
namespace Go.Proofs.Ytodgabdhgaglmaa
set_option maxRecDepth 100000
open Go.RowKit Go.ChangeShapes Go.WideShapes
set_option maxRecDepth 100000 in
theorem open_code {H : Type} {enc : TypeId × Value → H} {W : World} {r : Reach} {b0 base : Nat} {held : Bool} {v : Value} {d : DataW H} {p : List MemPlace}
    (hv : Value.okWide Try.prog W r b0 82 v) (h : DataW.Trod enc Try.prog W base (fun _ => true) held 82 v d p) : ∃ a len cap, v = .slice a len cap ∧ (len ≤ 1048576 → CodeAt W W.heap.size a len) := by
  obtain ⟨a0, l0, c0, rfl⟩ := okWide_slice Try.underlying82 hv
  refine ⟨a0, l0, c0, rfl, fun hl => ?_⟩
  obtain ⟨fuel, hf⟩ := h
  rcases open_ints Try.underlying82 Try.underlying5 (by kernel_rfl) hf with ⟨hcs, _⟩ | ⟨x, l, c, zs, hcs, _, hl', hm, hz, _, hcell, hwz⟩
  · simp [Value.cells] at hcs
    obtain ⟨rfl, rfl, rfl⟩ := hcs
    exact code_at (cap := 0) (zs := []) hl (.inl ⟨rfl, rfl⟩)
  · simp [Value.cells] at hcs
    obtain ⟨rfl, rfl, rfl⟩ := hcs
    exact code_at (cap := c0) (zs := zs) hl (.inr ⟨_, rfl, hl', by simpa using hz, hcell, hwz⟩)
end Go.Proofs.Ytodgabdhgaglmaa
/- LawPts: The walk of the law over paths, over what is told of the program's own functions. -/
namespace Go.Proofs.Ytodgabdhgaglmaa
set_option maxRecDepth 100000
open Go.RowKit
attribute [local go_sem ↓] Go.wp_at_zero Go.wp_at_succ

structure PathsAll : Prop where
  name : ∀ (t : ByteArray) (w : World), t.size ≤ 1048576 → Calls Try.prog 77 #[.string t] w fun e w' => e = .returned (.bool (nameB t)) ∧ Below w.heap.size w w'
  split : ∀ (t : ByteArray) (w : World), t.size ≤ 1048576 → Calls Try.prog 72 #[.string t] w fun e w' => QPost (splitB t) w e w'
  join : ∀ (w : World) (u : Value) (L : List ByteArray) (lo hi : Nat), CSee w u L lo hi → TFit L → Calls Try.prog 73 #[u] w fun e w' => e = .returned (.string (joinB L)) ∧ Below w.heap.size w w'
  parent : ∀ (t : ByteArray) (w : World), t.size ≤ 1048576 → Calls Try.prog 62 #[.string t] w fun e w' => ParPost t w e w'
theorem eq_toList (x : ByteArray) : (x.toList == x.toList) = true := by simp
theorem slash_toList : ((⟨#[47]⟩ : ByteArray).toList == [47]) = true := by rw [Go.ByteArray.toList_eq]; rfl
theorem none_toList : ((⟨#[]⟩ : ByteArray).toList == []) = true := by rw [Go.ByteArray.toList_eq]; rfl
theorem join_size {I : List ByteArray} (h : TFit I) : (joinB I).size ≤ 1048576 := by
  by_cases e : I = []
  · subst e; decide
  · rw [joinB_ne e, joinA_size]; exact h
end Go.Proofs.Ytodgabdhgaglmaa
/- PaL: The program's own JoinPath and ParentPath; all four together. -/
namespace Go.Proofs.Ytodgabdhgaglmaa
set_option maxRecDepth 100000
open Go.RowKit
open Go.PlainAid (bt)
attribute [local go_sem ↓] Go.wp_at_zero Go.wp_at_succ

theorem lib_join (L : List (List UInt8)) : (47 :: Lib.join L [47]) = joinP L := by
  cases L with
  | nil => rfl
  | cons x L =>
    unfold joinP
    rw [if_neg (by simp)]
    induction L generalizing x with
    | nil => simp [Lib.join]
    | cons y L ih =>
      have := ih y
      simp only [List.map_cons, List.flatten_cons, List.cons_append, List.cons.injEq, true_and] at this ⊢
      rw [← this]
      simp [Lib.join]
theorem joinP_len (L : List ByteArray) (h : TFit L) : (Lib.join (L.map lb) [47]).length ≤ 2097152 := by
  have e := congrArg List.length (lib_join (L.map lb))
  have := join_size h
  have hb : (joinB L).size = (joinP (L.map lb)).length := by
    unfold joinB
    show (joinP (L.map lb)).toArray.size = _
    simp
  rw [List.length_cons] at e
  omega
set_option maxRecDepth 100000 in
set_option maxHeartbeats 1000000 in
theorem implJoinPath (w : World) (u : Value) (L : List ByteArray) (lo hi : Nat) (hu : CSee w u L lo hi) (hf : TFit L) : Calls Try.prog 73 #[u] w fun e w' => e = .returned (.string (joinB L)) ∧ Below w.heap.size w w' := by
  obtain ⟨a, cap, rfl, hc, hr⟩ := hu
  have hjl := joinP_len L hf
  have HJ : Shut (joinB L = (⟨#[47]⟩ : ByteArray) ++ ⟨(Lib.join (L.map lb) [47]).toArray⟩) := ⟨by
    unfold joinB
    rw [← lib_join]
    apply ByteArray.ext
    simp⟩
  by_cases h0 : L = []
  · subst h0
    have HN := Shut.mk (fun W => Try.strings_Join_none a cap ⟨#[47]⟩ W)
    clear hr hf hjl
    go_enter Try.func73, Try.ntmps73
    go_wp2_with fail
    refine (HN.out _).mono ?_
    rintro e w1 ⟨rfl, hw⟩
    subst hw
    go_wp2_with fail
    go_ret
    exact ⟨rfl, Below.refl _ _⟩
  · obtain ⟨b, off, rfl, hb, hcs⟩ := units_at hr (List.length_pos_iff.2 h0)
    have hn : L.length ≤ 1048576 := by unfold TFit at hf; omega
    have HN := Shut.mk (Try.strings_Join b off cap L ⟨#[47]⟩ w (fun j x hx => by
      obtain ⟨hj, e⟩ := List.getElem?_eq_some_iff.1 hx
      have := hcs j hj
      rw [this]
      simp [List.getD, hj, e]) hb (by omega) hc (by
        show (Lib.join (L.map lb) [47]).length ≤ _
        omega))
    have hsz : ((⟨(Lib.join (L.map lb) [47]).toArray⟩ : ByteArray)).size ≤ 2097152 := by
      show (Lib.join (L.map lb) [47]).toArray.size ≤ _
      simpa using hjl
    have HN' : Shut (Calls Try.prog 78 #[.slice (some ⟨b, off, none⟩) L.length cap, .string ⟨#[47]⟩] w fun e w' => e = .returned (.string ⟨(Lib.join (L.map lb) [47]).toArray⟩) ∧ Below w.heap.size w w') := HN
    generalize (⟨(Lib.join (L.map lb) [47]).toArray⟩ : ByteArray) = J at *
    clear hr hf hjl hcs HN h0
    go_enter Try.func73, Try.ntmps73
    go_wp2_with fail
    refine HN'.out.mono ?_
    rintro e w1 ⟨rfl, hb1⟩
    go_wp2_with fail
    go_ret
    exact ⟨by rw [HJ.out]; rfl, hb1⟩
theorem OwnAt.form {w : World} {base n : Nat} {v : Value} {L : List ByteArray} (h : OwnAt w base v n L) : ∃ a cap, v = .slice a n cap := by
  obtain ⟨_, ⟨e, h0⟩ | ⟨g, off, cap, e, _⟩⟩ := h
  · exact ⟨none, 0, by rw [e, h0]⟩
  · exact ⟨_, cap, e⟩
theorem OwnAt.some' {w : World} {base n : Nat} {v : Value} {L : List ByteArray} (h : OwnAt w base v n L) (hp : 0 < n) : ∃ g off cap, v = .slice (some ⟨g, off, none⟩) n cap ∧ n ≤ cap ∧ g < w.heap.size ∧ ∀ j, j < L.length → w.cell? ⟨g, off + j, none⟩ = some (.string (L.getD j ⟨#[]⟩)) := by
  obtain ⟨_, ⟨_, h0⟩ | ⟨g, off, cap, e, _, hn, _, hc⟩⟩ := h
  · omega
  · exact ⟨g, off, cap, e, hn, hc.1, fun j hj => (hc.2 j hj).1⟩
theorem CSee.below {w w' : World} {v : Value} {L : List ByteArray} {lo hi : Nat} (h : CSee w v L lo hi) (hb : Below w.heap.size w w') : CSee w' v L lo hi := by
  obtain ⟨a, cap, e, hc, hr⟩ := h
  obtain ⟨a', cap', e', hr'⟩ := (show SSee w v L lo hi from ⟨a, cap, e, hr⟩).below hb
  rw [e] at e'
  cases e'
  exact ⟨a, cap, e, hc, hr'⟩
set_option maxRecDepth 100000 in
set_option maxHeartbeats 2000000 in
theorem implParentPath (p : ByteArray) (w : World) (hs : p.size ≤ 1048576) : Calls Try.prog 62 #[.string p] w fun e w' => ParPost p w e w' := by
  have HS := Shut.mk (fun W => implSplitPath p W hs)
  have hnm := splitB_names p
  unfold QPost at HS
  unfold ParPost
  obtain ⟨L, ok, hre⟩ : ∃ L ok, splitB p = (L, ok) := ⟨_, _, rfl⟩
  rw [hre] at HS hnm
  have HN := Shut.mk hnm
  clear hnm
  cases ok with
  | false =>
    rw [parent_no hre (.inl rfl)]
    clear hre
    go_enter Try.func62, Try.ntmps62
    go_wp2_with fail
    refine (HS.out _).mono ?_
    rintro e w1 ⟨v, rfl, ho, hb⟩
    obtain ⟨a, cap, rfl⟩ := ho.form
    have HB := Shut.mk hb
    clear ho hb
    go_wp2_with fail
    go_ret3
    exact ⟨rfl, HB.out⟩
  | true =>
    rcases List.eq_nil_or_concat L with rfl | ⟨I, x, rfl⟩
    · rw [parent_no hre (.inr rfl)]
      clear hre
      go_enter Try.func62, Try.ntmps62
      go_wp2_with fail
      refine (HS.out _).mono ?_
      rintro e w1 ⟨v, rfl, ho, hb⟩
      obtain ⟨a, cap, rfl⟩ := ho.form
      have HB := Shut.mk hb
      clear ho hb
      go_wp2_with fail
      go_ret3
      exact ⟨rfl, HB.out⟩
    · rw [List.concat_eq_append] at *
      rw [parent_yes hre]
      obtain ⟨J, hJ⟩ : ∃ J, J = joinB I := ⟨_, rfl⟩
      have HJE := Shut.mk hJ
      rw [← hJ]
      clear hJ
      have h4 := HN.out.2
      have HF : Shut (TFit I) := ⟨names_fit (fun s h => HN.out.1 s (List.mem_append.2 (.inl h))) (by rw [List.length_append] at h4; omega)⟩
      obtain ⟨m, hm⟩ : ∃ m, m = I.length := ⟨_, rfl⟩
      have HM := Shut.mk hm
      have hm4 : m ≤ 4 := by rw [List.length_append] at h4; omega
      rw [show (I ++ [x], true).1.length = m + 1 by simp [hm]] at HS
      clear hre h4 hm
      go_enter Try.func62, Try.ntmps62
      go_wp2_with fail
      refine (HS.out _).mono ?_
      rintro e w1 ⟨v, rfl, ho, hb⟩
      obtain ⟨g, off, cap, rfl, hcap, hg, hcs⟩ := ho.some' (by omega)
      have d0 : w1.cell? ⟨g, off + m, none⟩ = some (.string x) := by
        rw [hcs m (by rw [List.length_append, HM.out]; simp)]
        simp [List.getD, HM.out]
      have hsee : CSee w1 (.slice (some ⟨g, off, none⟩) m cap) I 0 w1.heap.size := ⟨_, cap, by rw [HM.out], by rw [← HM.out]; omega, fun _ => ⟨g, off, rfl, Nat.zero_le _, hg, hg, fun i u hu => by
        have hi : i < I.length := by
          have := (List.getElem?_eq_some_iff.1 hu).1
          rwa [tv_len] at this
        rw [tv_get I i hi] at hu
        cases hu
        rw [hcs i (by rw [List.length_append]; omega)]
        simp [List.getD, List.getElem?_append_left hi]⟩⟩
      have HJ := Shut.mk (fun W (hW : Below w1.heap.size w1 W) => implJoinPath W _ _ _ _ (hsee.below hW) HF.out)
      have HB := Shut.mk hb
      have hm0 : (((m + 1 : Nat) : Int) == 0) = false := by rw [beq_eq_false_iff_ne]; omega
      obtain ⟨n, hn⟩ : ∃ n, n = m + 1 := ⟨_, rfl⟩
      rw [← hn] at hcap hm0 ⊢
      have hnm : (n : Int) - 1 = (m : Int) := by omega
      have hmn : (m : Int) < (n : Int) := by omega
      have hmc : (m : Int) ≤ (cap : Int) := by omega
      have hm9 : (0 : Int) ≤ (m : Int) := by omega
      have hwr : IntKind.i64.wrap ((n : Int) - 1) = (m : Int) := by rw [hnm]; exact IntWalk.i64_in _ ⟨by omega, by omega⟩
      rw [← HJE.out] at HJ
      clear ho hb hcs hsee hn HN HM hnm
      go_wp2_with fail
      go_region_held3 (fun w' => w'.cell? ⟨g, off + m, none⟩ = some (.string x))
        (first | assumption | (exact (hb9.cell (p := ⟨g, off + m, none⟩) hg).trans (by assumption)) | go_keep)
        (first | (go_at_call 73; refine (HJ.out _ (by first | exact Below.refl _ _ | exact Below.drew (Below.refl _ _))).mono ?_; rintro e w9 ⟨rfl, hb9⟩))
      all_goals
        go_wp2_with fail
        go_ret3
        exact ⟨rfl, by first | exact HB.out.trans (hb9.mono HB.out.size) | exact HB.out.trans (((Below.drew (Below.refl w1.heap.size w1)).trans hb9).mono HB.out.size)⟩
theorem pathsAll : PathsAll := ⟨implNameOk, implSplitPath, implJoinPath, implParentPath⟩
end Go.Proofs.Ytodgabdhgaglmaa
/- HasN: The program's own: a path that has a name. -/
namespace Go.Proofs.Ytodgabdhgaglmaa
set_option maxRecDepth 100000
open Go.RowKit BigFrame
attribute [local go_sem ↓] Go.wp_at_zero Go.wp_at_succ

theorem implHasName (p : ByteArray) (w : World) (hs : p.size ≤ 1048576) : Calls Try.prog 39 #[.string p] w fun e w' => e = .returned (.bool (named p)) ∧ Below w.heap.size w w' := by
  have HC := Shut.mk (fun W => implParentPath p W hs)
  unfold ParPost at HC
  have e0 : named p = (parentB p).2.2 := rfl
  rw [e0]
  generalize (parentB p).2.2 = a at *
  generalize (parentB p).2.1 = b at *
  generalize (parentB p).1 = c at *
  clear hs e0
  go_enter Try.func39, Try.ntmps39
  go_wp2_with fail
  refine (HC.out _).mono ?_
  rintro e w1 ⟨rfl, hb⟩
  go_wp2_with fail
  go_ret
  exact ⟨rfl, hb⟩
end Go.Proofs.Ytodgabdhgaglmaa
/- SpnB: Rows of numbers as values; the walk of the model's Spans. -/
namespace Go.Proofs.Ytodgabdhgaglmaa
set_option maxRecDepth 100000
open Go.RowKit
attribute [local go_sem ↓] Go.wp_at_zero Go.wp_at_succ

/-- A value that is these numbers, in memory of its own. -/
def IAns (w : World) (v : Value) (xs : List Int) (lo hi : Nat) : Prop := ∃ (a : Option Addr) (cap : Nat), v = .slice a xs.length cap ∧ xs.length ≤ cap ∧ (xs = [] ∨ ∃ g, a = some ⟨g, 0, none⟩ ∧ lo ≤ g ∧ g < hi ∧ WCells w g (ics xs))
theorem IAns.empty (w : World) (a : Option Addr) (cap lo hi : Nat) : IAns w (.slice a 0 cap) [] lo hi := ⟨a, cap, rfl, Nat.zero_le _, .inl rfl⟩
theorem IAns.crow {w : World} {v : Value} {xs : List Int} {lo hi : Nat} (h : IAns w v xs lo hi) : ∃ a cap, v = .slice a xs.length cap ∧ CRow w a (ics xs) := by
  obtain ⟨a, cap, e, _, q⟩ := h
  refine ⟨a, cap, e, ?_⟩
  rcases q with rfl | ⟨g, rfl, _, _, q⟩
  · intro h; simp [ics] at h
  · exact q.crow
theorem IAns.turned {w w' : World} {v : Value} {xs : List Int} {lo hi lo' hi' : Nat} (h : IAns w v xs lo hi) (t : Turned w w' lo' hi') (hd : hi ≤ lo' ∨ hi' ≤ lo) : IAns w' v xs lo hi := by
  obtain ⟨a, cap, e, hc, q⟩ := h
  refine ⟨a, cap, e, hc, ?_⟩
  rcases q with rfl | ⟨g, rfl, h1, h2, h3⟩
  · exact .inl rfl
  · exact .inr ⟨g, rfl, h1, h2, h3.turned t (by omega)⟩
theorem IAns.below {w w' : World} {v : Value} {xs : List Int} {lo hi : Nat} (h : IAns w v xs lo hi) (hb : Below w.heap.size w w') : IAns w' v xs lo hi := by
  obtain ⟨a, cap, e, hc, q⟩ := h
  refine ⟨a, cap, e, hc, ?_⟩
  rcases q with rfl | ⟨g, rfl, h1, h2, h3⟩
  · exact .inl rfl
  · exact .inr ⟨g, rfl, h1, h2, h3.below hb h3.1⟩
def IPost (xs : List Int) (w : World) (e : Ending) (w' : World) : Prop := ∃ v, e = .returned v ∧ IAns w' v xs w.heap.size w'.heap.size ∧ Below w.heap.size w w'
theorem own_ians {w w' : World} {v : Value} {xs : List Int} {n : Nat} (hn : xs.length = n) (h : w'.ownsRow w.heap.size 3 1 v n (ics xs)) : IAns w' v xs w.heap.size w'.heap.size := by
  have hlt := h.lt
  have hown := h
  subst hn
  obtain ⟨_, ⟨rfl, h0⟩ | ⟨g, cap, cur, rfl, hB, hcur, hn, _⟩⟩ := h
  · have : xs = [] := List.eq_nil_of_length_eq_zero h0
    subst this
    exact IAns.empty _ _ _ _ _
  · exact ⟨_, cap, rfl, hn, .inr ⟨g, rfl, hB, (hlt g rfl).2, own_wcells hown⟩⟩
/-- The lengths of the groups of so many bytes. -/
def spanL (S n : Nat) : List Int := List.replicate ((n - 1) / S) (S : Int) ++ [((n - (n - 1) / S * S : Nat) : Int)]
def spansX (s n : Int) : List Int := if schOk s = true ∧ 1 ≤ n ∧ n ≤ 1000 then spanL (groupN s) n.toNat else []
theorem spansX_no {s n : Int} (h : ¬ (schOk s = true ∧ 1 ≤ n ∧ n ≤ 1000)) : spansX s n = [] := if_neg h
theorem group_pos {s : Int} (h : schOk s = true) : 16 ≤ groupN s := by have := (sch_bounds h).1; unfold groupN; omega
theorem group_zero {s : Int} (h : schOk s = false) : groupN s = 0 := by unfold groupN; rw [(sch_zero h).1]
theorem span_last {S n j : Nat} (hS : 0 < S) (h1 : j * S < n) (h2 : n ≤ j * S + S) : (n - 1) / S = j := by
  have e : n - 1 = (n - 1 - j * S) + j * S := by omega
  rw [e, Nat.add_mul_div_right _ _ hS, Nat.div_eq_of_lt (by omega), Nat.zero_add]
end Go.Proofs.Ytodgabdhgaglmaa
/- StI: The program's own SchemaOf, GroupSize, PlaceOf, OffsetOf and Spans. -/
namespace Go.Proofs.Ytodgabdhgaglmaa
set_option maxRecDepth 100000
open Go.RowKit
attribute [local go_sem ↓] Go.wp_at_zero Go.wp_at_succ

theorem implSch (s : Int) (w : World) : Calls Try.prog 79 #[.int .i64 s] w fun e w' => SchPost s w e w' := by
  cases h : schOk s with
  | true =>
    obtain rfl | rfl | rfl := sch_cases h
    all_goals
      clear h
      go_enter Try.func79, Try.ntmps79
      go_wp2_with fail
      go_ret3
      exact ⟨rfl, rfl⟩
  | false =>
    obtain ⟨h1, h2, h3⟩ := sch_no h
    obtain ⟨e1, e2⟩ := sch_zero h
    unfold SchPost
    rw [e1, e2, h]
    clear h e1 e2
    go_enter Try.func79, Try.ntmps79
    go_wp2_with fail
    go_ret3
    exact ⟨rfl, rfl⟩
theorem span_one {S n j : Nat} (h1 : j * S < n) (h2 : n ≤ j * S + S) (hS : 0 < S) : spanL S n = List.replicate j (S : Int) ++ [((n - j * S : Nat) : Int)] := by
  unfold spanL
  rw [span_last hS h1 h2]
end Go.Proofs.Ytodgabdhgaglmaa
/- SchQ: The program's own test of a schema. -/
namespace Go.Proofs.Ytodgabdhgaglmaa
set_option maxRecDepth 100000
open Go.RowKit BigFrame
attribute [local go_sem ↓] Go.wp_at_zero Go.wp_at_succ

theorem sch_in (s : Int) : schOk s = inI s 1 3 := by
  cases h : schOk s with
  | true =>
    obtain rfl | rfl | rfl := sch_cases h <;> rfl
  | false =>
    obtain ⟨h1, h2, h3⟩ := sch_no h
    symm
    refine Bool.eq_false_iff.2 fun hc => ?_
    have := inI_iff.1 hc
    omega
theorem implSchemaOk (s : Int) (w : World) : Calls Try.prog 74 #[.int .i64 s] w fun e w' => e = .returned (.bool (inI s 1 3)) ∧ w' = w := by
  have HS := Shut.mk (fun W => implSch s W)
  unfold SchPost at HS
  rw [sch_in] at HS
  generalize inI s 1 3 = ok at *
  generalize schM s = m at *
  generalize schK s = k at *
  go_enter Try.func74, Try.ntmps74
  go_wp2_with fail
  refine (HS.out _).mono ?_
  rintro e w1 ⟨rfl, rfl⟩
  go_wp2_with fail
  go_ret
  exact ⟨rfl, rfl⟩
end Go.Proofs.Ytodgabdhgaglmaa
/- EdP: The program's own test of a record. -/
namespace Go.Proofs.Ytodgabdhgaglmaa
set_option maxRecDepth 100000
open Go.RowKit BigFrame
attribute [local go_sem ↓] Go.wp_at_zero Go.wp_at_succ

/-- What the program asks of a record's path, of where it goes, of its number, of who. -/
def pathQ (e : EM) : Bool := if e.kind = 10 then e.path.toList == [47] else if e.kind = 5 ∨ e.kind = 6 then (e.path.toList == [47]) || named e.path else named e.path
def destQ (e : EM) : Bool := if e.kind = 3 then named e.dest else e.dest.toList == []
def numQ (e : EM) : Bool := if e.kind = 5 then inI e.num 1 3 else if e.kind = 6 then inI e.num 0 1000 else if e.kind = 7 then inI e.num 1 200 else e.num == 0
def whoQ (e : EM) : Bool := if e.kind = 2 ∨ e.kind = 9 then inI e.who 1 9 else e.who == 0
theorem not_named_nil {p : ByteArray} (h : (p.toList == []) = true) : named p = false := by
  rw [Go.ByteArray.toList_eq, beq_iff_eq] at h
  have hp : p = ⟨#[]⟩ := ByteArray.ext (Array.toList_inj.1 h)
  subst hp
  rfl
theorem edit_is (e : EM) : editOk e = (inI e.kind 1 10 && pathQ e && destQ e && numQ e && whoQ e) := by
  unfold editOk pathBad numsOk pathQ destQ numQ whoQ
  have hn := @not_named_nil e.dest
  generalize named e.dest = nd at *
  generalize named e.path = np at *
  generalize (e.path.toList == [47]) = rt at *
  have hne : (e.dest.toList != []) = !(e.dest.toList == []) := rfl
  rw [hne]
  generalize (e.dest.toList == []) = te at *
  generalize inI e.num 1 3 = a1 at *
  generalize inI e.num 0 1000 = a2 at *
  generalize inI e.num 1 200 = a3 at *
  generalize inI e.who 1 9 = a4 at *
  generalize (e.num == 0) = a5 at *
  generalize (e.who == 0) = a6 at *
  cases hk : inI e.kind 1 10 with
  | false => simp
  | true =>
    have hk' := inI_iff.1 hk
    have hc : e.kind = 1 ∨ e.kind = 2 ∨ e.kind = 3 ∨ e.kind = 4 ∨ e.kind = 5 ∨ e.kind = 6 ∨ e.kind = 7 ∨ e.kind = 8 ∨ e.kind = 9 ∨ e.kind = 10 := by omega
    rcases hc with h | h | h | h | h | h | h | h | h | h <;> rw [h] <;> simp <;> revert hn <;> cases nd <;> cases te <;> simp <;> cases np <;> cases rt <;> simp [Bool.and_comm]
set_option maxRecDepth 100000 in
set_option maxHeartbeats 1000000 in
theorem implPathQ (e : EM) (w : World) (hf : EFit e) : Calls Try.prog 63 #[ev e] w fun r w' => r = .returned (.bool (pathQ e)) ∧ Below w.heap.size w w' := by
  have HN := Shut.mk (fun W => implHasName e.path W hf.1)
  have HR : Shut (pathQ e = if e.kind = 10 then e.path.toList == [47] else if e.kind = 5 ∨ e.kind = 6 then (e.path.toList == [47]) || named e.path else named e.path) := ⟨rfl⟩
  generalize pathQ e = R at *
  generalize named e.path = np at *
  obtain ⟨kind, path, dest, num, who⟩ := e
  dsimp only at *
  clear hf
  go_enter Try.func63, Try.ntmps63
  go_wp2_with (go_at_call 39; refine (HN.out _).mono ?_; rintro r w1 ⟨rfl, hb1⟩)
  all_goals
    go_ret
    refine ⟨by rw [HR.out]; (try simp only [beq_iff_eq, beq_eq_false_iff_ne, ne_eq] at *); simp [*], ?_⟩
    first
      | exact (Below.refl _ _).alloc (Nat.le_refl _) _
      | exact ((Below.refl _ _).alloc (Nat.le_refl _) _).trans (hb1.mono (by simp))
set_option maxRecDepth 100000 in
set_option maxHeartbeats 1000000 in
theorem implDestQ (e : EM) (w : World) (hf : EFit e) : Calls Try.prog 64 #[ev e] w fun r w' => r = .returned (.bool (destQ e)) ∧ Below w.heap.size w w' := by
  have HN := Shut.mk (fun W => implHasName e.dest W hf.2)
  have HR : Shut (destQ e = if e.kind = 3 then named e.dest else e.dest.toList == []) := ⟨rfl⟩
  generalize destQ e = R at *
  generalize named e.dest = np at *
  obtain ⟨kind, path, dest, num, who⟩ := e
  dsimp only at *
  clear hf
  go_enter Try.func64, Try.ntmps64
  go_wp2_with (go_at_call 39; refine (HN.out _).mono ?_; rintro r w1 ⟨rfl, hb1⟩)
  all_goals
    go_ret
    refine ⟨by rw [HR.out]; (try simp only [beq_iff_eq, beq_eq_false_iff_ne, ne_eq] at *); simp [*], ?_⟩
    first
      | exact (Below.refl _ _).alloc (Nat.le_refl _) _
      | exact ((Below.refl _ _).alloc (Nat.le_refl _) _).trans (hb1.mono (by simp))
set_option maxRecDepth 100000 in
set_option maxHeartbeats 1000000 in
theorem implNumQ (e : EM) (w : World) : Calls Try.prog 65 #[ev e] w fun r w' => r = .returned (.bool (numQ e)) ∧ Below w.heap.size w w' := by
  have HR : Shut (numQ e = if e.kind = 5 then inI e.num 1 3 else if e.kind = 6 then (decide (0 ≤ e.num) && decide (e.num ≤ 1000)) else if e.kind = 7 then (decide (1 ≤ e.num) && decide (e.num ≤ 200)) else e.num == 0) := ⟨rfl⟩
  generalize numQ e = R at *
  obtain ⟨kind, path, dest, num, who⟩ := e
  dsimp only at *
  go_enter Try.func65, Try.ntmps65
  go_wp2_with (go_at_call 74; refine (implSchemaOk _ _).mono ?_; rintro r w1 ⟨rfl, rfl⟩)
  all_goals
    go_ret
    refine ⟨by rw [HR.out]; (try simp only [beq_iff_eq, beq_eq_false_iff_ne, ne_eq] at *); first | (simp [*]; done) | (simp [*]; omega), ?_⟩
    exact (Below.refl _ _).alloc (Nat.le_refl _) _
set_option maxRecDepth 100000 in
set_option maxHeartbeats 1000000 in
theorem implWhoQ (e : EM) (w : World) : Calls Try.prog 66 #[ev e] w fun r w' => r = .returned (.bool (whoQ e)) ∧ Below w.heap.size w w' := by
  have HR : Shut (whoQ e = if e.kind = 2 ∨ e.kind = 9 then (decide (1 ≤ e.who) && decide (e.who ≤ 9)) else e.who == 0) := ⟨rfl⟩
  generalize whoQ e = R at *
  obtain ⟨kind, path, dest, num, who⟩ := e
  dsimp only at *
  go_enter Try.func66, Try.ntmps66
  go_wp2_with fail
  all_goals
    go_ret
    refine ⟨by rw [HR.out]; (try simp only [beq_iff_eq, beq_eq_false_iff_ne, ne_eq] at *); first | (simp [*]; done) | (simp [*]; omega), ?_⟩
    exact (Below.refl _ _).alloc (Nat.le_refl _) _
end Go.Proofs.Ytodgabdhgaglmaa
/- EdD: The model's EditText. -/
namespace Go.Proofs.Ytodgabdhgaglmaa
set_option maxRecDepth 100000
open Go.RowKit
attribute [local go_sem ↓] Go.wp_at_zero Go.wp_at_succ

/-- A number in bytes. -/
def vb (n : Nat) : ByteArray := ⟨(W.vt n).toArray⟩
/-- The text of a record. -/
def editT (e : EM) : ByteArray := ⟨#[UInt8.ofNat e.kind.toNat, UInt8.ofNat e.who.toNat]⟩ ++ vb e.path.size ++ e.path ++ vb e.dest.size ++ e.dest ++ vb e.num.toNat
/-- What is known of a right record's numbers. -/
theorem edit_nums {e : EM} (h : editOk e = true) : 1 ≤ e.kind ∧ e.kind ≤ 10 ∧ 0 ≤ e.who ∧ e.who ≤ 9 ∧ 0 ≤ e.num ∧ e.num ≤ 1000 := by
  unfold editOk at h
  rw [Bool.and_eq_true, inI_iff] at h
  obtain ⟨⟨h1, h2⟩, h3⟩ := h
  refine ⟨h1, h2, ?_⟩
  by_cases h10 : e.kind = 10
  · rw [if_pos h10] at h3
    simp only [Bool.and_eq_true, beq_iff_eq] at h3
    omega
  · rw [if_neg h10, Bool.and_eq_true] at h3
    have h4 := h3.2
    unfold numsOk at h4
    split at h4
    · rw [Bool.and_eq_true, inI_iff, beq_iff_eq] at h4; omega
    · split at h4
      · rw [Bool.and_eq_true, inI_iff, beq_iff_eq] at h4; omega
      · split at h4
        · rw [Bool.and_eq_true, inI_iff, beq_iff_eq] at h4; omega
        · split at h4
          · rw [Bool.and_eq_true, inI_iff, beq_iff_eq] at h4; omega
          · rw [Bool.and_eq_true, beq_iff_eq, beq_iff_eq] at h4; omega
theorem cell_ltE {w : World} {p : Addr} {v : Value} (h : w.cell? p = some v) : p.block < w.heap.size := by
  by_cases c : p.block < w.heap.size
  · exact c
  · exfalso
    unfold World.cell? at h
    rw [Array.getElem?_eq_none (by omega)] at h
    simp at h
/-- A record's cells, behind a world. -/
def EC (w0 : World) (b : Nat) (e : EM) (w : World) : Prop := w.cell? ⟨b, 0, none⟩ = some (.int .i64 e.kind) ∧ w.cell? ⟨b, 1, none⟩ = some (.string e.path) ∧ w.cell? ⟨b, 2, none⟩ = some (.string e.dest) ∧ w.cell? ⟨b, 3, none⟩ = some (.int .i64 e.num) ∧ w.cell? ⟨b, 4, none⟩ = some (.int .i64 e.who) ∧ Shut (Below w0.heap.size w0 w)
theorem EC.below {w0 : World} {b : Nat} {e : EM} {w w' : World} (h : EC w0 b e w) (hb : Below w.heap.size w w') : EC w0 b e w' :=
  ⟨(hb.cell (p := ⟨b, 0, none⟩) (cell_ltE h.1)).trans h.1, (hb.cell (p := ⟨b, 1, none⟩) (cell_ltE h.2.1)).trans h.2.1, (hb.cell (p := ⟨b, 2, none⟩) (cell_ltE h.2.2.1)).trans h.2.2.1, (hb.cell (p := ⟨b, 3, none⟩) (cell_ltE h.2.2.2.1)).trans h.2.2.2.1, (hb.cell (p := ⟨b, 4, none⟩) (cell_ltE h.2.2.2.2.1)).trans h.2.2.2.2.1, ⟨h.2.2.2.2.2.out.trans (hb.mono h.2.2.2.2.2.out.size)⟩⟩
theorem EC.alloc {w0 : World} {b : Nat} {e : EM} {w : World} (h : EC w0 b e w) (o : Obj) : EC w0 b e (w.alloc o) := h.below ((Below.refl _ _).alloc (Nat.le_refl _) o)
theorem EC.drew {w0 : World} {b : Nat} {e : EM} {w : World} (h : EC w0 b e w) : EC w0 b e w.drew := h.below (Below.drew (Below.refl _ _))
theorem two_cells (w : World) (b : Nat) (c1 c2 : UInt8) (h0 : w.cell? ⟨b, 0, none⟩ = some (.int .u8 (c1.toNat : Int))) (h1 : w.cell? ⟨b, 1, none⟩ = some (.int .u8 (c2.toNat : Int))) : (convert 82 9 (.slice (some ⟨b, 0, none⟩) 2 2)).run Try.prog w = .ok (.string ⟨#[c1, c2]⟩) w := by
  refine run_convert_bytes_back _ 82 9 5 ⟨b, 0, none⟩ 2 [c1, c2] Try.underlying82 Try.underlying5 Try.underlying9 (fun j hj => ?_)
  have e : (⟨b, 0, none⟩ : Addr).add j = ⟨b, j, none⟩ := by cases j <;> simp [Addr.add]
  rw [e]
  match j, hj with
  | 0, _ => exact h0
  | 1, _ => exact h1
theorem two_later (x y : World) (c1 c2 : UInt8) (hy : Later (x.alloc (.cells #[.int .u8 (c1.toNat : Int), .int .u8 (c2.toNat : Int)] 5)) y) : (convert 82 9 (.slice (some ⟨x.heap.size, 0, none⟩) 2 2)).run Try.prog y = .ok (.string ⟨#[c1, c2]⟩) y :=
  two_cells _ _ c1 c2 ((Below.cell hy (p := ⟨x.heap.size, 0, none⟩) (by simp)).trans (by rw [World.cell?_alloc_mark]; rfl)) ((Below.cell hy (p := ⟨x.heap.size, 1, none⟩) (by simp)).trans (by rw [World.cell?_alloc_mark]; rfl))
theorem u8_byte (x : Int) (h0 : 0 ≤ x) (h1 : x < 256) : IntKind.u8.wrap x = ((UInt8.ofNat x.toNat).toNat : Int) := by
  rw [IntKind.wrap_u8]
  simp
  omega
end Go.Proofs.Ytodgabdhgaglmaa
/- EdQ: The program's own EditOk. -/
namespace Go.Proofs.Ytodgabdhgaglmaa
set_option maxRecDepth 100000
open Go.RowKit BigFrame
attribute [local go_sem ↓] Go.wp_at_zero Go.wp_at_succ

theorem ec_new (w : World) (e : EM) (T : TypeId) : EC w w.heap.size e (w.alloc (.cells #[.int .i64 e.kind, .string e.path, .string e.dest, .int .i64 e.num, .int .i64 e.who] T)) := by
  have h := wcells_new w #[.int .i64 e.kind, .string e.path, .string e.dest, .int .i64 e.num, .int .i64 e.who] T
  exact ⟨(h.2 0 _ rfl).1, (h.2 1 _ rfl).1, (h.2 2 _ rfl).1, (h.2 3 _ rfl).1, (h.2 4 _ rfl).1, ⟨(Below.refl _ _).alloc (Nat.le_refl _) _⟩⟩
set_option maxRecDepth 100000 in
set_option maxHeartbeats 1000000 in
theorem implEditOk (e : EM) (w : World) (hf : EFit e) : Calls Try.prog 40 #[ev e] w fun r w' => r = .returned (.bool (editOk e)) ∧ Below w.heap.size w w' := by
  have H1 := Shut.mk (fun W => implPathQ e W hf)
  have H2 := Shut.mk (fun W => implDestQ e W hf)
  have H3 := Shut.mk (fun W => implNumQ e W)
  have H4 := Shut.mk (fun W => implWhoQ e W)
  have HR := Shut.mk (edit_is e)
  have HN := Shut.mk (ec_new w e 43)
  generalize editOk e = R at *
  generalize pathQ e = q1 at *
  generalize destQ e = q2 at *
  generalize numQ e = q3 at *
  generalize whoQ e = q4 at *
  unfold inI at HR
  obtain ⟨kind, path, dest, num, who⟩ := e
  dsimp only at *
  clear hf
  go_enter Try.func40, Try.ntmps40
  go_wp2_with (first
    | (go_at_call 63; refine (H1.out _).mono ?_; rintro r w1 ⟨rfl, hb1⟩; obtain ⟨c0, c1, c2, c3, c4, hB⟩ := HN.out.below hb1; clear hb1; dsimp only at c0 c1 c2 c3 c4)
    | (go_at_call 64; refine (H2.out _).mono ?_; rintro r w1 ⟨rfl, hb1⟩; obtain ⟨c0, c1, c2, c3, c4, hB⟩ := EC.below (e := ⟨kind, path, dest, num, who⟩) ⟨c0, c1, c2, c3, c4, hB⟩ hb1; clear hb1; dsimp only at c0 c1 c2 c3 c4)
    | (go_at_call 65; refine (H3.out _).mono ?_; rintro r w1 ⟨rfl, hb1⟩; obtain ⟨c0, c1, c2, c3, c4, hB⟩ := EC.below (e := ⟨kind, path, dest, num, who⟩) ⟨c0, c1, c2, c3, c4, hB⟩ hb1; clear hb1; dsimp only at c0 c1 c2 c3 c4)
    | (go_at_call 66; refine (H4.out _).mono ?_; rintro r w1 ⟨rfl, hb1⟩; obtain ⟨c0, c1, c2, c3, c4, hB⟩ := EC.below (e := ⟨kind, path, dest, num, who⟩) ⟨c0, c1, c2, c3, c4, hB⟩ hb1; clear hb1; dsimp only at c0 c1 c2 c3 c4))
  all_goals
    go_ret
    refine ⟨by rw [HR.out]; first | (simp [*]; done) | (simp [*]; omega), ?_⟩
    first
      | exact hB.out
      | exact (Below.refl _ _).alloc (Nat.le_refl _) _
end Go.Proofs.Ytodgabdhgaglmaa
/- AkK: The program's own AskOk (written by gen/mkakk.py). -/
namespace Go.Proofs.Ytodgabdhgaglmaa
set_option maxRecDepth 100000
open Go.RowKit BigFrame
attribute [local go_sem ↓] Go.wp_at_zero Go.wp_at_succ
def textQ (q : AkM) : Bool := if q.kind = 3 then inI (q.text.size : Int) 1 60 else (q.text.toList == [])
def spareQ (q : AkM) : Bool := ((q.num == 0) || (q.kind == 8) || (q.kind == 9)) && ((q.dest.toList == []) || (q.kind == 5))
def placeQ (q : AkM) : Bool := if q.kind = 7 then named q.path else editOk (edOf q)
theorem ask_is (q : AkM) : askOk q = (inI q.kind 1 10 && inI q.who 1 9 && textQ q && spareQ q && placeQ q) := by
  unfold askOk textQ spareQ placeQ
  have hne : (q.dest.toList != []) = !(q.dest.toList == []) := rfl
  rw [hne]
  generalize (q.dest.toList == []) = a1
  generalize (if q.kind = 3 then inI (q.text.size : Int) 1 60 else (q.text.toList == [])) = a2
  generalize (if q.kind = 7 then named q.path else editOk (edOf q)) = a3
  generalize inI q.kind 1 10 = a4
  generalize inI q.who 1 9 = a5
  have e5 : (q.kind != 5) = !(q.kind == 5) := rfl
  have e8 : (q.kind != 8) = !(q.kind == 8) := rfl
  have e9 : (q.kind != 9) = !(q.kind == 9) := rfl
  have en : (q.num != 0) = !(q.num == 0) := rfl
  rw [e5, e8, e9, en]
  generalize (q.kind == 5) = b5
  generalize (q.kind == 8) = b8
  generalize (q.kind == 9) = b9
  generalize (q.num == 0) = bn
  revert a1 a2 a3 a4 a5 b5 b8 b9 bn
  decide
theorem implTextOk (q : AkM) (w : World) (ht : q.text.size ≤ 1048576) : Calls Try.prog 22 #[akv q] w fun e w' => e = .returned (.bool (textQ q)) ∧ Below w.heap.size w w' := by
  have HR : Shut (textQ q = if q.kind = 3 then (decide (1 ≤ (q.text.size : Int)) && decide ((q.text.size : Int) ≤ 60)) else (q.text.toList == [])) := ⟨rfl⟩
  generalize textQ q = R at *
  obtain ⟨kind, who, path, dest, text, num⟩ := q
  dsimp only at *
  go_enter Try.func22, Try.ntmps22
  go_wp2_with fail
  all_goals
    go_ret
    refine ⟨by rw [HR.out]; (try simp only [beq_iff_eq, beq_eq_false_iff_ne, ne_eq] at *); first | (simp [*]; done) | (simp [*]; omega), ?_⟩
    exact (Below.refl _ _).alloc (Nat.le_refl _) _
theorem implSpareOk (q : AkM) (w : World) : Calls Try.prog 23 #[akv q] w fun e w' => e = .returned (.bool (spareQ q)) ∧ Below w.heap.size w w' := by
  have HR : Shut (spareQ q = (((q.num == 0) || (q.kind == 8) || (q.kind == 9)) && ((q.dest.toList == []) || (q.kind == 5)))) := ⟨rfl⟩
  generalize spareQ q = R at *
  obtain ⟨kind, who, path, dest, text, num⟩ := q
  dsimp only at *
  go_enter Try.func23, Try.ntmps23
  go_wp2_with fail
  all_goals
    go_ret
    refine ⟨by rw [HR.out]; first | (simp [*]; done) | (simp [*]; omega), ?_⟩
    exact (Below.refl _ _).alloc (Nat.le_refl _) _
theorem implPlaceOk (q : AkM) (w : World) (hp : q.path.size ≤ 1048576) (hd : q.dest.size ≤ 1048576) : Calls Try.prog 24 #[akv q] w fun e w' => e = .returned (.bool (placeQ q)) ∧ Below w.heap.size w w' := by
  have HN := Shut.mk (fun W => implHasName q.path W hp)
  have HE := Shut.mk (fun W => implEditOf q W hp hd)
  have HO := Shut.mk (fun W => implEditOk (edOf q) W (edOf_fit hp hd))
  have HR : Shut (placeQ q = if q.kind = 7 then named q.path else editOk (edOf q)) := ⟨rfl⟩
  generalize placeQ q = R at *
  generalize named q.path = n9 at HN HR
  generalize editOk (edOf q) = e9 at HO HR
  generalize edOf q = E at HE HO
  obtain ⟨kind, who, path, dest, text, num⟩ := q
  obtain ⟨ek, ep, ed, en, ew⟩ := E
  clear hp hd
  have H := Shut.mk ((SL.start w).new #[.int .i64 kind, .int .i64 who, .string path, .string dest, .string text, .int .i64 num] 26)
  obtain ⟨qb, hqb⟩ : ∃ b, b = w.heap.size := ⟨_, rfl⟩
  dsimp only at *
  go_enter Try.func24, Try.ntmps24
  go_upto_region 1 with fail
  rw [← hqb] at H ⊢
  refine wp_shade (fun W => SL w W [bxS qb [.int .i64 kind, .int .i64 who, .string path, .string dest, .string text, .int .i64 num]]) H.out ?_
  intro W0 hS0
  replace H := Shut.mk hS0
  clear hS0 hqb
  have x0 := (H.out.bx 0 rfl 0 _ rfl).1
  have x1 := (H.out.bx 0 rfl 1 _ rfl).1
  have x2 := (H.out.bx 0 rfl 2 _ rfl).1
  have x3 := (H.out.bx 0 rfl 3 _ rfl).1
  have x4 := (H.out.bx 0 rfl 4 _ rfl).1
  have x5 := (H.out.bx 0 rfl 5 _ rfl).1
  go_wp2_with (first
    | (go_at_call 39; refine (HN.out _).mono ?_; rintro e w1 ⟨rfl, hb⟩; replace H := Shut.mk (H.out.below hb); clear hb x0 x1 x2 x3 x4 x5)
    | (go_at_call 16; refine (HE.out _).mono ?_; rintro e w1 ⟨rfl, hb⟩; replace H := Shut.mk (H.out.below hb); clear hb x0 x1 x2 x3 x4 x5)
    | (go_at_call 40; refine (HO.out _).mono ?_; rintro e w1 ⟨rfl, hb⟩; replace H := Shut.mk (H.out.below hb); clear hb))
  all_goals
    go_ret
    exact ⟨by rw [HR.out]; (try simp only [beq_iff_eq, beq_eq_false_iff_ne, ne_eq] at *); simp [*], H.out.bel⟩
set_option maxRecDepth 100000 in
set_option maxHeartbeats 4000000 in
theorem implAskOk (q : AkM) (w : World) (hp : q.path.size ≤ 1048576) (hd : q.dest.size ≤ 1048576) (ht : q.text.size ≤ 1048576) : Calls Try.prog 9 #[akv q] w fun e w' => e = .returned (.bool (askOk q)) ∧ Below w.heap.size w w' := by
  have HK := Shut.mk (fun W => implKindOk q W)
  have HT := Shut.mk (fun W => implTextOk q W ht)
  have HS := Shut.mk (fun W => implSpareOk q W)
  have HP := Shut.mk (fun W => implPlaceOk q W hp hd)
  have HR := Shut.mk (ask_is q)
  generalize askOk q = R at *
  generalize inI q.kind 1 10 = kk at HK HR
  generalize textQ q = kt at HT HR
  generalize spareQ q = ks at HS HR
  generalize placeQ q = kp at HP HR
  unfold inI at HR
  obtain ⟨kind, who, path, dest, text, num⟩ := q
  clear hp hd ht
  have H := Shut.mk ((SL.start w).new #[.int .i64 kind, .int .i64 who, .string path, .string dest, .string text, .int .i64 num] 26)
  obtain ⟨qb, hqb⟩ : ∃ b, b = w.heap.size := ⟨_, rfl⟩
  dsimp only at *
  go_enter Try.func9, Try.ntmps9
  go_upto_region 1 with fail
  rw [← hqb] at H ⊢
  refine wp_shade (fun W => SL w W [bxS qb [.int .i64 kind, .int .i64 who, .string path, .string dest, .string text, .int .i64 num]]) H.out ?_
  intro W0 hS0
  replace H := Shut.mk hS0
  clear hS0 hqb
  have x0 := (H.out.bx 0 rfl 0 _ rfl).1
  have x1 := (H.out.bx 0 rfl 1 _ rfl).1
  have x2 := (H.out.bx 0 rfl 2 _ rfl).1
  have x3 := (H.out.bx 0 rfl 3 _ rfl).1
  have x4 := (H.out.bx 0 rfl 4 _ rfl).1
  have x5 := (H.out.bx 0 rfl 5 _ rfl).1
  go_wp2_with (first
    | (go_at_call 21; refine (HK.out _).mono ?_; rintro e w1 ⟨rfl, hb⟩; replace H := Shut.mk (H.out.below hb); clear hb x0 x1 x2 x3 x4 x5; have x0 := (H.out.bx 0 rfl 0 _ rfl).1; have x1 := (H.out.bx 0 rfl 1 _ rfl).1; have x2 := (H.out.bx 0 rfl 2 _ rfl).1; have x3 := (H.out.bx 0 rfl 3 _ rfl).1; have x4 := (H.out.bx 0 rfl 4 _ rfl).1; have x5 := (H.out.bx 0 rfl 5 _ rfl).1)
    | (go_at_call 22; refine (HT.out _).mono ?_; rintro e w1 ⟨rfl, hb⟩; replace H := Shut.mk (H.out.below hb); clear hb x0 x1 x2 x3 x4 x5; have x0 := (H.out.bx 0 rfl 0 _ rfl).1; have x1 := (H.out.bx 0 rfl 1 _ rfl).1; have x2 := (H.out.bx 0 rfl 2 _ rfl).1; have x3 := (H.out.bx 0 rfl 3 _ rfl).1; have x4 := (H.out.bx 0 rfl 4 _ rfl).1; have x5 := (H.out.bx 0 rfl 5 _ rfl).1)
    | (go_at_call 23; refine (HS.out _).mono ?_; rintro e w1 ⟨rfl, hb⟩; replace H := Shut.mk (H.out.below hb); clear hb x0 x1 x2 x3 x4 x5; have x0 := (H.out.bx 0 rfl 0 _ rfl).1; have x1 := (H.out.bx 0 rfl 1 _ rfl).1; have x2 := (H.out.bx 0 rfl 2 _ rfl).1; have x3 := (H.out.bx 0 rfl 3 _ rfl).1; have x4 := (H.out.bx 0 rfl 4 _ rfl).1; have x5 := (H.out.bx 0 rfl 5 _ rfl).1)
    | (go_at_call 24; refine (HP.out _).mono ?_; rintro e w1 ⟨rfl, hb⟩; replace H := Shut.mk (H.out.below hb); clear hb x0 x1 x2 x3 x4 x5; have x0 := (H.out.bx 0 rfl 0 _ rfl).1; have x1 := (H.out.bx 0 rfl 1 _ rfl).1; have x2 := (H.out.bx 0 rfl 2 _ rfl).1; have x3 := (H.out.bx 0 rfl 3 _ rfl).1; have x4 := (H.out.bx 0 rfl 4 _ rfl).1; have x5 := (H.out.bx 0 rfl 5 _ rfl).1))
  all_goals
    go_ret
    exact ⟨by rw [HR.out]; first | (simp [*]; done) | (simp [*]; omega), H.out.bel⟩
end Go.Proofs.Ytodgabdhgaglmaa
