/- Texts of ours, laid one behind the other: PaL, SpnB, StI, SchQ, EdP, EdQ, Var, ShortText, EdR, VtM, EdS, VarBack, EdX. -/
import Derived.Test.YtdglbakdianjkaaPr95
import Derived.Deep.AppendLies
/- PaL: The program's own JoinPath and ParentPath; all four together. -/
namespace Go.Proofs.Ytdglbakdianjkaa
set_option maxRecDepth 100000
open Go.RowKit
open Go.PlainAid (bt)
attribute [local go_sem ↓] Go.wp_at_zero Go.wp_at_succ

theorem lib_join (L : List (List UInt8)) : (47 :: Lib.join L [47]) = joinP L := by
  cases L with
  | nil => rfl
  | cons x L =>
    unfold joinP
    rw [if_neg (by simp)]
    induction L generalizing x with
    | nil => simp [Lib.join]
    | cons y L ih =>
      have := ih y
      simp only [List.map_cons, List.flatten_cons, List.cons_append, List.cons.injEq, true_and] at this ⊢
      rw [← this]
      simp [Lib.join]
theorem joinP_len (L : List ByteArray) (h : TFit L) : (Lib.join (L.map lb) [47]).length ≤ 2097152 := by
  have e := congrArg List.length (lib_join (L.map lb))
  have := join_size h
  have hb : (joinB L).size = (joinP (L.map lb)).length := by
    unfold joinB
    show (joinP (L.map lb)).toArray.size = _
    simp
  rw [List.length_cons] at e
  omega
set_option maxRecDepth 100000 in
set_option maxHeartbeats 1000000 in
theorem implJoinPath (w : World) (u : Value) (L : List ByteArray) (lo hi : Nat) (hu : CSee w u L lo hi) (hf : TFit L) : Calls Try.prog 60 #[u] w fun e w' => e = .returned (.string (joinB L)) ∧ Below w.heap.size w w' := by
  obtain ⟨a, cap, rfl, hc, hr⟩ := hu
  have hjl := joinP_len L hf
  have HJ : Shut (joinB L = (⟨#[47]⟩ : ByteArray) ++ ⟨(Lib.join (L.map lb) [47]).toArray⟩) := ⟨by
    unfold joinB
    rw [← lib_join]
    apply ByteArray.ext
    simp⟩
  by_cases h0 : L = []
  · subst h0
    have HN := Shut.mk (fun W => Try.strings_Join_none a cap ⟨#[47]⟩ W)
    clear hr hf hjl
    go_enter Try.func60, Try.ntmps60
    go_wp2_with fail
    refine (HN.out _).mono ?_
    rintro e w1 ⟨rfl, hw⟩
    subst hw
    go_wp2_with fail
    go_ret
    exact ⟨rfl, Below.refl _ _⟩
  · obtain ⟨b, off, rfl, hb, hcs⟩ := units_at hr (List.length_pos_iff.2 h0)
    have hn : L.length ≤ 1048576 := by unfold TFit at hf; omega
    have HN := Shut.mk (Try.strings_Join b off cap L ⟨#[47]⟩ w (fun j x hx => by
      obtain ⟨hj, e⟩ := List.getElem?_eq_some_iff.1 hx
      have := hcs j hj
      rw [this]
      simp [List.getD, hj, e]) hb (by omega) hc (by
        show (Lib.join (L.map lb) [47]).length ≤ _
        omega))
    have hsz : ((⟨(Lib.join (L.map lb) [47]).toArray⟩ : ByteArray)).size ≤ 2097152 := by
      show (Lib.join (L.map lb) [47]).toArray.size ≤ _
      simpa using hjl
    have HN' : Shut (Calls Try.prog 64 #[.slice (some ⟨b, off, none⟩) L.length cap, .string ⟨#[47]⟩] w fun e w' => e = .returned (.string ⟨(Lib.join (L.map lb) [47]).toArray⟩) ∧ Below w.heap.size w w') := HN
    generalize (⟨(Lib.join (L.map lb) [47]).toArray⟩ : ByteArray) = J at *
    clear hr hf hjl hcs HN h0
    go_enter Try.func60, Try.ntmps60
    go_wp2_with fail
    refine HN'.out.mono ?_
    rintro e w1 ⟨rfl, hb1⟩
    go_wp2_with fail
    go_ret
    exact ⟨by rw [HJ.out]; rfl, hb1⟩
theorem OwnAt.form {w : World} {base n : Nat} {v : Value} {L : List ByteArray} (h : OwnAt w base v n L) : ∃ a cap, v = .slice a n cap := by
  obtain ⟨_, ⟨e, h0⟩ | ⟨g, off, cap, e, _⟩⟩ := h
  · exact ⟨none, 0, by rw [e, h0]⟩
  · exact ⟨_, cap, e⟩
theorem OwnAt.some' {w : World} {base n : Nat} {v : Value} {L : List ByteArray} (h : OwnAt w base v n L) (hp : 0 < n) : ∃ g off cap, v = .slice (some ⟨g, off, none⟩) n cap ∧ n ≤ cap ∧ g < w.heap.size ∧ ∀ j, j < L.length → w.cell? ⟨g, off + j, none⟩ = some (.string (L.getD j ⟨#[]⟩)) := by
  obtain ⟨_, ⟨_, h0⟩ | ⟨g, off, cap, e, _, hn, _, hc⟩⟩ := h
  · omega
  · exact ⟨g, off, cap, e, hn, hc.1, fun j hj => (hc.2 j hj).1⟩
theorem CSee.below {w w' : World} {v : Value} {L : List ByteArray} {lo hi : Nat} (h : CSee w v L lo hi) (hb : Below w.heap.size w w') : CSee w' v L lo hi := by
  obtain ⟨a, cap, e, hc, hr⟩ := h
  obtain ⟨a', cap', e', hr'⟩ := (show SSee w v L lo hi from ⟨a, cap, e, hr⟩).below hb
  rw [e] at e'
  cases e'
  exact ⟨a, cap, e, hc, hr'⟩
set_option maxRecDepth 100000 in
set_option maxHeartbeats 2000000 in
theorem implParentPath (p : ByteArray) (w : World) (hs : p.size ≤ 1048576) : Calls Try.prog 55 #[.string p] w fun e w' => ParPost p w e w' := by
  have HS := Shut.mk (fun W => implSplitPath p W hs)
  have hnm := splitB_names p
  unfold QPost at HS
  unfold ParPost
  obtain ⟨L, ok, hre⟩ : ∃ L ok, splitB p = (L, ok) := ⟨_, _, rfl⟩
  rw [hre] at HS hnm
  have HN := Shut.mk hnm
  clear hnm
  cases ok with
  | false =>
    rw [parent_no hre (.inl rfl)]
    clear hre
    go_enter Try.func55, Try.ntmps55
    go_wp2_with fail
    refine (HS.out _).mono ?_
    rintro e w1 ⟨v, rfl, ho, hb⟩
    obtain ⟨a, cap, rfl⟩ := ho.form
    have HB := Shut.mk hb
    clear ho hb
    go_wp2_with fail
    go_ret3
    exact ⟨rfl, HB.out⟩
  | true =>
    rcases List.eq_nil_or_concat L with rfl | ⟨I, x, rfl⟩
    · rw [parent_no hre (.inr rfl)]
      clear hre
      go_enter Try.func55, Try.ntmps55
      go_wp2_with fail
      refine (HS.out _).mono ?_
      rintro e w1 ⟨v, rfl, ho, hb⟩
      obtain ⟨a, cap, rfl⟩ := ho.form
      have HB := Shut.mk hb
      clear ho hb
      go_wp2_with fail
      go_ret3
      exact ⟨rfl, HB.out⟩
    · rw [List.concat_eq_append] at *
      rw [parent_yes hre]
      obtain ⟨J, hJ⟩ : ∃ J, J = joinB I := ⟨_, rfl⟩
      have HJE := Shut.mk hJ
      rw [← hJ]
      clear hJ
      have h4 := HN.out.2
      have HF : Shut (TFit I) := ⟨names_fit (fun s h => HN.out.1 s (List.mem_append.2 (.inl h))) (by rw [List.length_append] at h4; omega)⟩
      obtain ⟨m, hm⟩ : ∃ m, m = I.length := ⟨_, rfl⟩
      have HM := Shut.mk hm
      have hm4 : m ≤ 4 := by rw [List.length_append] at h4; omega
      rw [show (I ++ [x], true).1.length = m + 1 by simp [hm]] at HS
      clear hre h4 hm
      go_enter Try.func55, Try.ntmps55
      go_wp2_with fail
      refine (HS.out _).mono ?_
      rintro e w1 ⟨v, rfl, ho, hb⟩
      obtain ⟨g, off, cap, rfl, hcap, hg, hcs⟩ := ho.some' (by omega)
      have d0 : w1.cell? ⟨g, off + m, none⟩ = some (.string x) := by
        rw [hcs m (by rw [List.length_append, HM.out]; simp)]
        simp [List.getD, HM.out]
      have hsee : CSee w1 (.slice (some ⟨g, off, none⟩) m cap) I 0 w1.heap.size := ⟨_, cap, by rw [HM.out], by rw [← HM.out]; omega, fun _ => ⟨g, off, rfl, Nat.zero_le _, hg, hg, fun i u hu => by
        have hi : i < I.length := by
          have := (List.getElem?_eq_some_iff.1 hu).1
          rwa [tv_len] at this
        rw [tv_get I i hi] at hu
        cases hu
        rw [hcs i (by rw [List.length_append]; omega)]
        simp [List.getD, List.getElem?_append_left hi]⟩⟩
      have HJ := Shut.mk (fun W (hW : Below w1.heap.size w1 W) => implJoinPath W _ _ _ _ (hsee.below hW) HF.out)
      have HB := Shut.mk hb
      have hm0 : (((m + 1 : Nat) : Int) == 0) = false := by rw [beq_eq_false_iff_ne]; omega
      obtain ⟨n, hn⟩ : ∃ n, n = m + 1 := ⟨_, rfl⟩
      rw [← hn] at hcap hm0 ⊢
      have hnm : (n : Int) - 1 = (m : Int) := by omega
      have hmn : (m : Int) < (n : Int) := by omega
      have hmc : (m : Int) ≤ (cap : Int) := by omega
      have hm9 : (0 : Int) ≤ (m : Int) := by omega
      have hwr : IntKind.i64.wrap ((n : Int) - 1) = (m : Int) := by rw [hnm]; exact IntWalk.i64_in _ ⟨by omega, by omega⟩
      rw [← HJE.out] at HJ
      clear ho hb hcs hsee hn HN HM hnm
      go_wp2_with fail
      go_region_held3 (fun w' => w'.cell? ⟨g, off + m, none⟩ = some (.string x))
        (first | assumption | (exact (hb9.cell (p := ⟨g, off + m, none⟩) hg).trans (by assumption)) | go_keep)
        (first | (go_at_call 60; refine (HJ.out _ (by first | exact Below.refl _ _ | exact Below.drew (Below.refl _ _))).mono ?_; rintro e w9 ⟨rfl, hb9⟩))
      all_goals
        go_wp2_with fail
        go_ret3
        exact ⟨rfl, by first | exact HB.out.trans (hb9.mono HB.out.size) | exact HB.out.trans (((Below.drew (Below.refl w1.heap.size w1)).trans hb9).mono HB.out.size)⟩
theorem pathsAll : PathsAll := ⟨implNameOk, implSplitPath, implJoinPath, implParentPath⟩
end Go.Proofs.Ytdglbakdianjkaa
/- SpnB: Rows of numbers as values; the walk of the model's Spans. -/
namespace Go.Proofs.Ytdglbakdianjkaa
open Go.RowKit
attribute [local go_sem ↓] Go.wp_at_zero Go.wp_at_succ

/-- A value that is these numbers, in memory of its own. -/
def IAns (w : World) (v : Value) (xs : List Int) (lo hi : Nat) : Prop := ∃ (a : Option Addr) (cap : Nat), v = .slice a xs.length cap ∧ xs.length ≤ cap ∧ (xs = [] ∨ ∃ g, a = some ⟨g, 0, none⟩ ∧ lo ≤ g ∧ g < hi ∧ WCells w g (ics xs))
theorem IAns.empty (w : World) (a : Option Addr) (cap lo hi : Nat) : IAns w (.slice a 0 cap) [] lo hi := ⟨a, cap, rfl, Nat.zero_le _, .inl rfl⟩
theorem IAns.crow {w : World} {v : Value} {xs : List Int} {lo hi : Nat} (h : IAns w v xs lo hi) : ∃ a cap, v = .slice a xs.length cap ∧ CRow w a (ics xs) := by
  obtain ⟨a, cap, e, _, q⟩ := h
  refine ⟨a, cap, e, ?_⟩
  rcases q with rfl | ⟨g, rfl, _, _, q⟩
  · intro h; simp [ics] at h
  · exact q.crow
theorem IAns.turned {w w' : World} {v : Value} {xs : List Int} {lo hi lo' hi' : Nat} (h : IAns w v xs lo hi) (t : Turned w w' lo' hi') (hd : hi ≤ lo' ∨ hi' ≤ lo) : IAns w' v xs lo hi := by
  obtain ⟨a, cap, e, hc, q⟩ := h
  refine ⟨a, cap, e, hc, ?_⟩
  rcases q with rfl | ⟨g, rfl, h1, h2, h3⟩
  · exact .inl rfl
  · exact .inr ⟨g, rfl, h1, h2, h3.turned t (by omega)⟩
theorem IAns.below {w w' : World} {v : Value} {xs : List Int} {lo hi : Nat} (h : IAns w v xs lo hi) (hb : Below w.heap.size w w') : IAns w' v xs lo hi := by
  obtain ⟨a, cap, e, hc, q⟩ := h
  refine ⟨a, cap, e, hc, ?_⟩
  rcases q with rfl | ⟨g, rfl, h1, h2, h3⟩
  · exact .inl rfl
  · exact .inr ⟨g, rfl, h1, h2, h3.below hb h3.1⟩
def IPost (xs : List Int) (w : World) (e : Ending) (w' : World) : Prop := ∃ v, e = .returned v ∧ IAns w' v xs w.heap.size w'.heap.size ∧ Below w.heap.size w w'
theorem own_ians {w w' : World} {v : Value} {xs : List Int} {n : Nat} (hn : xs.length = n) (h : w'.ownsRow w.heap.size 3 1 v n (ics xs)) : IAns w' v xs w.heap.size w'.heap.size := by
  have hlt := h.lt
  have hown := h
  subst hn
  obtain ⟨_, ⟨rfl, h0⟩ | ⟨g, cap, cur, rfl, hB, hcur, hn, _⟩⟩ := h
  · have : xs = [] := List.eq_nil_of_length_eq_zero h0
    subst this
    exact IAns.empty _ _ _ _ _
  · exact ⟨_, cap, rfl, hn, .inr ⟨g, rfl, hB, (hlt g rfl).2, own_wcells hown⟩⟩
/-- The lengths of the groups of so many bytes. -/
def spanL (S n : Nat) : List Int := List.replicate ((n - 1) / S) (S : Int) ++ [((n - (n - 1) / S * S : Nat) : Int)]
def spansX (s n : Int) : List Int := if schOk s = true ∧ 1 ≤ n ∧ n ≤ 1000 then spanL (groupN s) n.toNat else []
theorem spansX_no {s n : Int} (h : ¬ (schOk s = true ∧ 1 ≤ n ∧ n ≤ 1000)) : spansX s n = [] := if_neg h
theorem group_pos {s : Int} (h : schOk s = true) : 16 ≤ groupN s := by have := (sch_bounds h).1; unfold groupN; omega
theorem group_zero {s : Int} (h : schOk s = false) : groupN s = 0 := by unfold groupN; rw [(sch_zero h).1]
theorem span_last {S n j : Nat} (hS : 0 < S) (h1 : j * S < n) (h2 : n ≤ j * S + S) : (n - 1) / S = j := by
  have e : n - 1 = (n - 1 - j * S) + j * S := by omega
  rw [e, Nat.add_mul_div_right _ _ hS, Nat.div_eq_of_lt (by omega), Nat.zero_add]
end Go.Proofs.Ytdglbakdianjkaa
/- StI: The program's own SchemaOf, GroupSize, PlaceOf, OffsetOf and Spans. -/
namespace Go.Proofs.Ytdglbakdianjkaa
open Go.RowKit
attribute [local go_sem ↓] Go.wp_at_zero Go.wp_at_succ

theorem implSch (s : Int) (w : World) : Calls Try.prog 56 #[.int .i64 s] w fun e w' => SchPost s w e w' := by
  cases h : schOk s with
  | true =>
    obtain rfl | rfl | rfl := sch_cases h
    all_goals
      clear h
      go_enter Try.func56, Try.ntmps56
      go_wp2_with fail
      go_ret3
      exact ⟨rfl, rfl⟩
  | false =>
    obtain ⟨h1, h2, h3⟩ := sch_no h
    obtain ⟨e1, e2⟩ := sch_zero h
    unfold SchPost
    rw [e1, e2, h]
    clear h e1 e2
    go_enter Try.func56, Try.ntmps56
    go_wp2_with fail
    go_ret3
    exact ⟨rfl, rfl⟩
theorem span_one {S n j : Nat} (h1 : j * S < n) (h2 : n ≤ j * S + S) (hS : 0 < S) : spanL S n = List.replicate j (S : Int) ++ [((n - j * S : Nat) : Int)] := by
  unfold spanL
  rw [span_last hS h1 h2]
end Go.Proofs.Ytdglbakdianjkaa
/- SchQ: The program's own test of a schema. -/
namespace Go.Proofs.Ytdglbakdianjkaa
open Go.RowKit BigFrame
attribute [local go_sem ↓] Go.wp_at_zero Go.wp_at_succ

theorem sch_in (s : Int) : schOk s = inI s 1 3 := by
  cases h : schOk s with
  | true =>
    obtain rfl | rfl | rfl := sch_cases h <;> rfl
  | false =>
    obtain ⟨h1, h2, h3⟩ := sch_no h
    symm
    refine Bool.eq_false_iff.2 fun hc => ?_
    have := inI_iff.1 hc
    omega
theorem implSchemaOk (s : Int) (w : World) : Calls Try.prog 46 #[.int .i64 s] w fun e w' => e = .returned (.bool (inI s 1 3)) ∧ w' = w := by
  have HS := Shut.mk (fun W => implSch s W)
  unfold SchPost at HS
  rw [sch_in] at HS
  generalize inI s 1 3 = ok at *
  generalize schM s = m at *
  generalize schK s = k at *
  go_enter Try.func46, Try.ntmps46
  go_wp2_with fail
  refine (HS.out _).mono ?_
  rintro e w1 ⟨rfl, rfl⟩
  go_wp2_with fail
  go_ret
  exact ⟨rfl, rfl⟩
end Go.Proofs.Ytdglbakdianjkaa
/- EdP: The program's own test of a record. -/
namespace Go.Proofs.Ytdglbakdianjkaa
open Go.RowKit BigFrame
attribute [local go_sem ↓] Go.wp_at_zero Go.wp_at_succ

theorem implHasName (p : ByteArray) (w : World) (hs : p.size ≤ 1048576) : Calls Try.prog 45 #[.string p] w fun e w' => e = .returned (.bool (named p)) ∧ Below w.heap.size w w' := by
  have HC := Shut.mk (fun W => implParentPath p W hs)
  unfold ParPost at HC
  have e0 : named p = (parentB p).2.2 := rfl
  rw [e0]
  generalize (parentB p).2.2 = a at *
  generalize (parentB p).2.1 = b at *
  generalize (parentB p).1 = c at *
  clear hs e0
  go_enter Try.func45, Try.ntmps45
  go_wp2_with fail
  refine (HC.out _).mono ?_
  rintro e w1 ⟨rfl, hb⟩
  go_wp2_with fail
  go_ret
  exact ⟨rfl, hb⟩
/-- What the program asks of a record's path, of where it goes, of its number, of who. -/
def pathQ (e : EM) : Bool := if e.kind = 10 then e.path.toList == [47] else if e.kind = 5 ∨ e.kind = 6 then (e.path.toList == [47]) || named e.path else named e.path
def destQ (e : EM) : Bool := if e.kind = 3 then named e.dest else e.dest.toList == []
def numQ (e : EM) : Bool := if e.kind = 5 then inI e.num 1 3 else if e.kind = 6 then inI e.num 0 1000 else if e.kind = 7 then inI e.num 1 200 else e.num == 0
def whoQ (e : EM) : Bool := if e.kind = 2 ∨ e.kind = 9 then inI e.who 1 9 else e.who == 0
theorem not_named_nil {p : ByteArray} (h : (p.toList == []) = true) : named p = false := by
  rw [Go.ByteArray.toList_eq, beq_iff_eq] at h
  have hp : p = ⟨#[]⟩ := ByteArray.ext (Array.toList_inj.1 h)
  subst hp
  rfl
theorem edit_is (e : EM) : editOk e = (inI e.kind 1 10 && pathQ e && destQ e && numQ e && whoQ e) := by
  unfold editOk pathBad numsOk pathQ destQ numQ whoQ
  have hn := @not_named_nil e.dest
  generalize named e.dest = nd at *
  generalize named e.path = np at *
  generalize (e.path.toList == [47]) = rt at *
  have hne : (e.dest.toList != []) = !(e.dest.toList == []) := rfl
  rw [hne]
  generalize (e.dest.toList == []) = te at *
  generalize inI e.num 1 3 = a1 at *
  generalize inI e.num 0 1000 = a2 at *
  generalize inI e.num 1 200 = a3 at *
  generalize inI e.who 1 9 = a4 at *
  generalize (e.num == 0) = a5 at *
  generalize (e.who == 0) = a6 at *
  cases hk : inI e.kind 1 10 with
  | false => simp
  | true =>
    have hk' := inI_iff.1 hk
    have hc : e.kind = 1 ∨ e.kind = 2 ∨ e.kind = 3 ∨ e.kind = 4 ∨ e.kind = 5 ∨ e.kind = 6 ∨ e.kind = 7 ∨ e.kind = 8 ∨ e.kind = 9 ∨ e.kind = 10 := by omega
    rcases hc with h | h | h | h | h | h | h | h | h | h <;> rw [h] <;> simp <;> revert hn <;> cases nd <;> cases te <;> simp <;> cases np <;> cases rt <;> simp [Bool.and_comm]
set_option maxRecDepth 100000 in
set_option maxHeartbeats 1000000 in
theorem implPathQ (e : EM) (w : World) (hf : EFit e) : Calls Try.prog 27 #[ev e] w fun r w' => r = .returned (.bool (pathQ e)) ∧ Below w.heap.size w w' := by
  have HN := Shut.mk (fun W => implHasName e.path W hf.1)
  have HR : Shut (pathQ e = if e.kind = 10 then e.path.toList == [47] else if e.kind = 5 ∨ e.kind = 6 then (e.path.toList == [47]) || named e.path else named e.path) := ⟨rfl⟩
  generalize pathQ e = R at *
  generalize named e.path = np at *
  obtain ⟨kind, path, dest, num, who⟩ := e
  dsimp only at *
  clear hf
  go_enter Try.func27, Try.ntmps27
  go_wp2_with (go_at_call 45; refine (HN.out _).mono ?_; rintro r w1 ⟨rfl, hb1⟩)
  all_goals
    go_ret
    refine ⟨by rw [HR.out]; (try simp only [beq_iff_eq, beq_eq_false_iff_ne, ne_eq] at *); simp [*], ?_⟩
    first
      | exact (Below.refl _ _).alloc (Nat.le_refl _) _
      | exact ((Below.refl _ _).alloc (Nat.le_refl _) _).trans (hb1.mono (by simp))
set_option maxRecDepth 100000 in
set_option maxHeartbeats 1000000 in
theorem implDestQ (e : EM) (w : World) (hf : EFit e) : Calls Try.prog 28 #[ev e] w fun r w' => r = .returned (.bool (destQ e)) ∧ Below w.heap.size w w' := by
  have HN := Shut.mk (fun W => implHasName e.dest W hf.2)
  have HR : Shut (destQ e = if e.kind = 3 then named e.dest else e.dest.toList == []) := ⟨rfl⟩
  generalize destQ e = R at *
  generalize named e.dest = np at *
  obtain ⟨kind, path, dest, num, who⟩ := e
  dsimp only at *
  clear hf
  go_enter Try.func28, Try.ntmps28
  go_wp2_with (go_at_call 45; refine (HN.out _).mono ?_; rintro r w1 ⟨rfl, hb1⟩)
  all_goals
    go_ret
    refine ⟨by rw [HR.out]; (try simp only [beq_iff_eq, beq_eq_false_iff_ne, ne_eq] at *); simp [*], ?_⟩
    first
      | exact (Below.refl _ _).alloc (Nat.le_refl _) _
      | exact ((Below.refl _ _).alloc (Nat.le_refl _) _).trans (hb1.mono (by simp))
set_option maxRecDepth 100000 in
set_option maxHeartbeats 1000000 in
theorem implNumQ (e : EM) (w : World) : Calls Try.prog 29 #[ev e] w fun r w' => r = .returned (.bool (numQ e)) ∧ Below w.heap.size w w' := by
  have HR : Shut (numQ e = if e.kind = 5 then inI e.num 1 3 else if e.kind = 6 then (decide (0 ≤ e.num) && decide (e.num ≤ 1000)) else if e.kind = 7 then (decide (1 ≤ e.num) && decide (e.num ≤ 200)) else e.num == 0) := ⟨rfl⟩
  generalize numQ e = R at *
  obtain ⟨kind, path, dest, num, who⟩ := e
  dsimp only at *
  go_enter Try.func29, Try.ntmps29
  go_wp2_with (go_at_call 46; refine (implSchemaOk _ _).mono ?_; rintro r w1 ⟨rfl, rfl⟩)
  all_goals
    go_ret
    refine ⟨by rw [HR.out]; (try simp only [beq_iff_eq, beq_eq_false_iff_ne, ne_eq] at *); first | (simp [*]; done) | (simp [*]; omega), ?_⟩
    exact (Below.refl _ _).alloc (Nat.le_refl _) _
set_option maxRecDepth 100000 in
set_option maxHeartbeats 1000000 in
theorem implWhoQ (e : EM) (w : World) : Calls Try.prog 30 #[ev e] w fun r w' => r = .returned (.bool (whoQ e)) ∧ Below w.heap.size w w' := by
  have HR : Shut (whoQ e = if e.kind = 2 ∨ e.kind = 9 then (decide (1 ≤ e.who) && decide (e.who ≤ 9)) else e.who == 0) := ⟨rfl⟩
  generalize whoQ e = R at *
  obtain ⟨kind, path, dest, num, who⟩ := e
  dsimp only at *
  go_enter Try.func30, Try.ntmps30
  go_wp2_with fail
  all_goals
    go_ret
    refine ⟨by rw [HR.out]; (try simp only [beq_iff_eq, beq_eq_false_iff_ne, ne_eq] at *); first | (simp [*]; done) | (simp [*]; omega), ?_⟩
    exact (Below.refl _ _).alloc (Nat.le_refl _) _
end Go.Proofs.Ytdglbakdianjkaa
/- EdQ: The program's own EditOk. -/
namespace Go.Proofs.Ytdglbakdianjkaa
open Go.RowKit BigFrame
attribute [local go_sem ↓] Go.wp_at_zero Go.wp_at_succ

theorem ec_new (w : World) (e : EM) (T : TypeId) : EC w w.heap.size e (w.alloc (.cells #[.int .i64 e.kind, .string e.path, .string e.dest, .int .i64 e.num, .int .i64 e.who] T)) := by
  have h := wcells_new w #[.int .i64 e.kind, .string e.path, .string e.dest, .int .i64 e.num, .int .i64 e.who] T
  exact ⟨(h.2 0 _ rfl).1, (h.2 1 _ rfl).1, (h.2 2 _ rfl).1, (h.2 3 _ rfl).1, (h.2 4 _ rfl).1, ⟨(Below.refl _ _).alloc (Nat.le_refl _) _⟩⟩
set_option maxRecDepth 100000 in
set_option maxHeartbeats 1000000 in
theorem implEditOk (e : EM) (w : World) (hf : EFit e) : Calls Try.prog 12 #[ev e] w fun r w' => r = .returned (.bool (editOk e)) ∧ Below w.heap.size w w' := by
  have H1 := Shut.mk (fun W => implPathQ e W hf)
  have H2 := Shut.mk (fun W => implDestQ e W hf)
  have H3 := Shut.mk (fun W => implNumQ e W)
  have H4 := Shut.mk (fun W => implWhoQ e W)
  have HR := Shut.mk (edit_is e)
  have HN := Shut.mk (ec_new w e 25)
  generalize editOk e = R at *
  generalize pathQ e = q1 at *
  generalize destQ e = q2 at *
  generalize numQ e = q3 at *
  generalize whoQ e = q4 at *
  unfold inI at HR
  obtain ⟨kind, path, dest, num, who⟩ := e
  dsimp only at *
  clear hf
  go_enter Try.func12, Try.ntmps12
  go_wp2_with (first
    | (go_at_call 27; refine (H1.out _).mono ?_; rintro r w1 ⟨rfl, hb1⟩; obtain ⟨c0, c1, c2, c3, c4, hB⟩ := HN.out.below hb1; clear hb1; dsimp only at c0 c1 c2 c3 c4)
    | (go_at_call 28; refine (H2.out _).mono ?_; rintro r w1 ⟨rfl, hb1⟩; obtain ⟨c0, c1, c2, c3, c4, hB⟩ := EC.below (e := ⟨kind, path, dest, num, who⟩) ⟨c0, c1, c2, c3, c4, hB⟩ hb1; clear hb1; dsimp only at c0 c1 c2 c3 c4)
    | (go_at_call 29; refine (H3.out _).mono ?_; rintro r w1 ⟨rfl, hb1⟩; obtain ⟨c0, c1, c2, c3, c4, hB⟩ := EC.below (e := ⟨kind, path, dest, num, who⟩) ⟨c0, c1, c2, c3, c4, hB⟩ hb1; clear hb1; dsimp only at c0 c1 c2 c3 c4)
    | (go_at_call 30; refine (H4.out _).mono ?_; rintro r w1 ⟨rfl, hb1⟩; obtain ⟨c0, c1, c2, c3, c4, hB⟩ := EC.below (e := ⟨kind, path, dest, num, who⟩) ⟨c0, c1, c2, c3, c4, hB⟩ hb1; clear hb1; dsimp only at c0 c1 c2 c3 c4))
  all_goals
    go_ret
    refine ⟨by rw [HR.out]; first | (simp [*]; done) | (simp [*]; omega), ?_⟩
    first
      | exact hB.out
      | exact (Below.refl _ _).alloc (Nat.le_refl _) _
end Go.Proofs.Ytdglbakdianjkaa
/- Var: The walks of the two VarText: each returns the bytes 'vt n'. -/
namespace Go.Proofs.Ytdglbakdianjkaa
open Go.RowKit

theorem implVarText_no (n : Int) (w : World) (hn : n < 0 ∨ 1000000000 < n) :
    Calls Try.prog 22 #[.int .i64 n] w fun e w' => e = .returned (.tuple #[.string ⟨#[]⟩, .bool false]) ∧ Below w.heap.size w w' := by
  rcases hn with h | h
  · go_enter Try.func22, Try.ntmps22
    go_wp2_with fail
    go_ret2
    exact ⟨rfl, Below.refl _ _⟩
  · have h0 : ¬ n < 0 := by omega
    go_enter Try.func22, Try.ntmps22
    go_wp2_with fail
    go_ret2
    exact ⟨rfl, Below.refl _ _⟩
set_option maxHeartbeats 400000 in
theorem implVarText_yes (n : Nat) (w : World) (hn : n ≤ 1000000000) :
    Calls Try.prog 22 #[.int .i64 n] w fun e w' => e = .returned (.tuple #[.string ⟨(W.vt n).toArray⟩, .bool true]) ∧ Below w.heap.size w w' := by
  obtain ⟨i0, hi, hz0, hz1, hz2⟩ := info_parts Try.info5
  have h1 : decide ((n : Int) < 0) = false := by simp
  have h2 : decide ((1000000000 : Int) < n) = false := by simp; omega
  go_enter Try.func22, Try.ntmps22
  go_wp2_with fail
  go_loopw [0, 4] (fun i v wr => ∃ (m : Nat) (l : List UInt8), i = .int .i64 m ∧ l.length + m ≤ n ∧ l ++ W.vt m = W.vt n ∧ wr.ownsRow w.heap.size 5 1 v l.length (bv l) ∧ Below w.heap.size w wr) (fun i _ _ => (intOf i).toNat)
  case atStart => exact ⟨n, [], rfl, by simp, rfl, World.ownsRow_nil w _ _ _, Below.refl _ _⟩
  case round =>
    obtain ⟨m, l, rfl, hl, ht, hown, hb⟩ := hrel
    have hB := hb.size
    have HT : Hid (l ++ W.vt m = W.vt n) := ht
    clear ht
    by_cases hm : 127 < m
    · go_wp2_with (at_builtin; refine wpList_append_own _ rfl _ _ 22 rfl w.heap.size 5 i0 (.int .u8 0) 1 1 Try.underlying22 hi hz0 hz1 hz2 rfl (by decide) _ _ _ rfl (hown.alloc _) ⟨wr.heap.size, 0, none⟩ 1 1 [.int .u8 _] rfl rfl (cell_one_new _ _ _) ?c2 ?c3 ?c4 ?c5 ?_)
      case c2 => intro u hu; simp at hu; subst hu; rfl
      case c3 => unfold maxLen; omega
      case c4 => omega
      case c5 => simp; omega
      · intro v' w1 hown' hgrow _
        obtain ⟨l', h1, h2, h3, h4⟩ := step_byte hB (by omega) hm hl HT.out hown hb hown' hgrow
        have H2 : Hid (l' ++ W.vt (m / 128) = W.vt n) := h2
        clear hown' hgrow hown h2
        go_wp2
        go_roundw
        case rel => exact ⟨m / 128, l', by go_num, h1, H2.out, h3, h4⟩
        case measure => simp [intOf]; omega
    · go_wp2_with (at_builtin; refine wpList_append_own _ rfl _ _ 22 rfl w.heap.size 5 i0 (.int .u8 0) 1 1 Try.underlying22 hi hz0 hz1 hz2 rfl (by decide) _ _ _ rfl (hown.alloc _) ⟨wr.heap.size, 0, none⟩ 1 1 [.int .u8 _] rfl rfl (cell_one_new _ _ _) ?c2 ?c3 ?c4 ?c5 ?_)
      case c2 => intro u hu; simp at hu; subst hu; rfl
      case c3 => unfold maxLen; omega
      case c4 => omega
      case c5 => simp; omega
      · intro v' w1 hown' hgrow _
        obtain ⟨hc, h4⟩ := last_byte hB (by omega) (by omega) HT.out hown hb hown' hgrow
        clear hown' hgrow hown
        go_wp2
        go_ret2
        exact ⟨rfl, h4⟩
end Go.Proofs.Ytdglbakdianjkaa
/- ShortText: The walks of the two ShortText. -/
namespace Go.Proofs.Ytdglbakdianjkaa
open Go.RowKit

/-- What ShortText writes. -/
def shortB (s : ByteArray) : ByteArray := ⟨(W.vt s.size).toArray⟩ ++ s

theorem implShortText_no (s : ByteArray) (w : World) (h : 20000 < s.size) :
    Calls Try.prog 21 #[.string s] w fun e w' => e = .returned (.tuple #[.string ⟨#[]⟩, .bool false]) ∧ Below w.heap.size w w' := by
  go_enter Try.func21, Try.ntmps21
  go_wp2_with fail
  go_ret2
  exact ⟨rfl, Below.refl _ _⟩
theorem implShortText_yes (s : ByteArray) (w : World) (h : s.size ≤ 20000) :
    Calls Try.prog 21 #[.string s] w fun e w' => e = .returned (.tuple #[.string (shortB s), .bool true]) ∧ Below w.heap.size w w' := by
  have hl := W.vt_len s.size
  go_enter Try.func21, Try.ntmps21
  go_wp2_with fail
  refine (implVarText_yes s.size _ (by omega)).mono ?_
  rintro e w1 ⟨rfl, hb⟩
  go_wp2_with fail
  go_ret2
  exact ⟨rfl, hb⟩
end Go.Proofs.Ytdglbakdianjkaa
/- EdR: The program's own EditText. -/
namespace Go.Proofs.Ytdglbakdianjkaa
open Go.RowKit BigFrame
attribute [local go_sem ↓] Go.wp_at_zero Go.wp_at_succ

theorem flat_size (L : List (List UInt8)) (h : ∀ l ∈ L, nameL l = true) : ((L.map (47 :: ·)).flatten).length ≤ 9 * L.length := by
  induction L with
  | nil => simp
  | cons x L ih =>
    have h1 := (nameL_pos (h x (by simp))).2
    have h2 := ih fun l hl => h l (by simp [hl])
    simp only [List.map_cons, List.flatten_cons, List.length_append, List.length_cons]
    omega
theorem split_size {p : List UInt8} (h : (splitP p).2 = true) : p.length ≤ 36 := by
  have e := join_split h
  obtain ⟨h1, h2⟩ := split_names (p := p)
  rw [← e]
  unfold joinP
  split
  · simp
  · have := flat_size _ h1
    omega
theorem named_size {p : ByteArray} (h : named p = true) : p.size ≤ 36 := by
  unfold named parentB at h
  split at h
  · rename_i hc
    exact split_size (p := lb p) hc.1
  · cases h
theorem edit_small {e : EM} (h : editOk e = true) : e.path.size ≤ 36 ∧ e.dest.size ≤ 36 := by
  rw [edit_is] at h
  simp only [Bool.and_eq_true] at h
  obtain ⟨⟨⟨⟨-, h1⟩, h2⟩, -⟩, -⟩ := h
  have one : ∀ p : ByteArray, (p.toList == [47]) = true → p.size ≤ 36 := fun p hp => by
    rw [Go.ByteArray.toList_eq, beq_iff_eq] at hp
    have : p.data.size = 1 := by rw [← Array.length_toList, hp]; rfl
    show p.data.size ≤ _
    omega
  have nil : ∀ p : ByteArray, (p.toList == []) = true → p.size ≤ 36 := fun p hp => by
    rw [Go.ByteArray.toList_eq, beq_iff_eq] at hp
    have : p.data.size = 0 := by rw [← Array.length_toList, hp]; rfl
    show p.data.size ≤ _
    omega
  refine ⟨?_, ?_⟩
  · unfold pathQ at h1
    split at h1
    · exact one _ h1
    · split at h1
      · rw [Bool.or_eq_true] at h1
        exact h1.elim (one _) named_size
      · exact named_size h1
  · unfold destQ at h2
    split at h2
    · exact named_size h2
    · exact nil _ h2
theorem editT_short (e : EM) : editT e = ⟨#[UInt8.ofNat e.kind.toNat, UInt8.ofNat e.who.toNat]⟩ ++ shortB e.path ++ shortB e.dest ++ (⟨(W.vt e.num.toNat).toArray⟩ : ByteArray) := by
  unfold editT shortB vb
  simp only [ByteArray.append_assoc]
set_option maxRecDepth 100000 in
set_option maxHeartbeats 1000000 in
theorem implEditText (e : EM) (w : World) (hf : EFit e) : Calls Try.prog 9 #[ev e] w fun r w' => r = .returned (.tuple #[.string (if editOk e then editT e else ⟨#[]⟩), .bool (editOk e)]) ∧ Below w.heap.size w w' := by
  have HOK := Shut.mk (fun W => implEditOk e W hf)
  have HN := Shut.mk (ec_new w e 25)
  cases hok : editOk e with
  | false =>
    rw [hok] at HOK
    clear hok
    obtain ⟨kind, path, dest, num, who⟩ := e
    go_enter Try.func9, Try.ntmps9
    go_wp2_with (go_at_call 12; refine (HOK.out _).mono ?_; rintro e w1 ⟨rfl, hb1⟩)
    go_ret2
    exact ⟨rfl, ((Below.refl _ _).alloc (Nat.le_refl _) _).trans (hb1.mono (by simp))⟩
  | true =>
    rw [hok] at HOK
    obtain ⟨n1, n2, n3, n4, n5, n6⟩ := edit_nums hok
    obtain ⟨s1, s2⟩ := edit_small hok
    have hT := editT_short e
    obtain ⟨kind, path, dest, num, who⟩ := e
    dsimp only at *
    clear hok hf
    obtain ⟨n, rfl⟩ := Int.eq_ofNat_of_zero_le n5
    have v1 := W.vt_len path.size
    have v2 := W.vt_len dest.size
    have v3 := W.vt_len n
    have HV1 := Shut.mk (fun W => implShortText_yes path W (by omega))
    have HV2 := Shut.mk (fun W => implShortText_yes dest W (by omega))
    have HV3 := Shut.mk (fun W => implVarText_yes n W (by omega))
    have t1 : (shortB path).size ≤ 2000000 := by unfold shortB; rw [ByteArray.size_append]; show (W.vt path.size).toArray.size + _ ≤ _; rw [List.size_toArray]; omega
    have t2 : (shortB dest).size ≤ 2000000 := by unfold shortB; rw [ByteArray.size_append]; show (W.vt dest.size).toArray.size + _ ≤ _; rw [List.size_toArray]; omega
    have t3 : (⟨(W.vt n).toArray⟩ : ByteArray).size ≤ 2000000 := by show (W.vt n).toArray.size ≤ _; rw [List.size_toArray]; omega
    have t0 : (⟨#[UInt8.ofNat kind.toNat, UInt8.ofNat who.toNat]⟩ : ByteArray).size ≤ 2 := by simp [ByteArray.size]
    have hk := u8_byte kind (by omega) (by omega)
    have hw := u8_byte who (by omega) (by omega)
    rw [Int.toNat_natCast] at hT
    generalize shortB path = V1 at HV1 hT t1
    generalize shortB dest = V2 at HV2 hT t2
    generalize (⟨(W.vt n).toArray⟩ : ByteArray) = V3 at HV3 hT t3
    obtain ⟨K, hK⟩ : ∃ K : ByteArray, K = ⟨#[UInt8.ofNat kind.toNat, UInt8.ofNat who.toNat]⟩ := ⟨_, rfl⟩
    rw [← hK] at hT t0
    generalize UInt8.ofNat kind.toNat = k1 at hk hK
    generalize UInt8.ofNat who.toNat = k2 at hw hK
    have HX : ∀ x : World, (convert 22 9 (.slice (some ⟨x.heap.size, 0, none⟩) 2 2)).run Try.prog (x.alloc (.cells #[.int .u8 (k1.toNat : Int), .int .u8 (k2.toNat : Int)] 5)) = .ok (.string K) (x.alloc (.cells #[.int .u8 (k1.toNat : Int), .int .u8 (k2.toNat : Int)] 5)) := fun x => by
      rw [hK]
      exact two_later x _ k1 k2 (Later.refl _)
    clear hK
    rw [hT]
    have q1 : ¬ (9223372036854775807 < K.size + V1.size) := by omega
    have q2 : ¬ (9223372036854775807 < K.size + V1.size + V2.size) := by omega
    have q3 : ¬ (9223372036854775807 < K.size + V1.size + V2.size + V3.size) := by omega
    clear hT v1 v2 v3 t0 t1 t2 t3 n1 n2 n3 n4 n5 n6 s1 s2
    go_enter Try.func9, Try.ntmps9
    go_wp2_with (first
      | (go_at_call 12; refine (HOK.out _).mono ?_; rintro e w1 ⟨rfl, hb1⟩; obtain ⟨c0, c1, c2, c3, c4, hB⟩ := HN.out.below hb1; clear hb1; dsimp only at c0 c1 c2 c3 c4; have tokA : True := trivial)
      | (go_at_call 21; clear tokA; refine (HV1.out _).mono ?_; rintro r w1 ⟨rfl, hb1⟩; obtain ⟨c0, c1, c2, c3, c4, hB⟩ := EC.below (e := ⟨kind, path, dest, n, who⟩) ⟨c0, c1, c2, c3, c4, hB⟩ hb1; clear hb1; dsimp only at c0 c1 c2 c3 c4)
      | (go_at_call 21; refine (HV2.out _).mono ?_; rintro r w1 ⟨rfl, hb1⟩; obtain ⟨c0, c1, c2, c3, c4, hB⟩ := EC.below (e := ⟨kind, path, dest, n, who⟩) ⟨c0, c1, c2, c3, c4, hB⟩ hb1; clear hb1; dsimp only at c0 c1 c2 c3 c4)
      | (go_at_call 22; refine (HV3.out _).mono ?_; rintro r w1 ⟨rfl, hb1⟩; obtain ⟨c0, c1, c2, c3, c4, hB⟩ := EC.below (e := ⟨kind, path, dest, n, who⟩) ⟨c0, c1, c2, c3, c4, hB⟩ hb1; clear hb1; dsimp only at c0 c1 c2 c3 c4))
    go_ret2
    exact ⟨rfl, hB.out.alloc hB.out.size _⟩
end Go.Proofs.Ytdglbakdianjkaa
/- VtM: Plain: what was read as a number are the bytes of this number. -/
namespace Go.Proofs.Ytdglbakdianjkaa.W

/-- What was read as a number are the bytes of this number. -/
theorem rvs_vt : ∀ (rest hd : List UInt8) (q n p : Nat), heads hd → hd.length ≤ 5 → rvs hd rest q = some (n, p) →
    ∃ mid r, rest = mid ++ r ∧ 0 < mid.length ∧ p = q + mid.length ∧ hd ++ mid = vt n
  | [], hd, q, n, p, _, _, h => by simp [rvs, rv] at h
  | b :: r, hd, q, n, p, hh, hk, h => by
    by_cases h5 : hd.length = 5
    · rw [rvs_five hd _ _ (by omega)] at h; cases h
    by_cases hb : 127 < b.toNat
    · rw [rvs_step hd b r q (by omega) hb] at h
      obtain ⟨mid, r', e1, e2, e3, e4⟩ := rvs_vt r (hd ++ [b]) (q + 1) n p (fun x hx => by
        rcases List.mem_append.1 hx with h | h
        · exact hh x h
        · simp at h; subst h; omega) (by simp; omega) h
      exact ⟨b :: mid, r', by rw [e1]; rfl, by simp, by simp; omega, by rw [← e4]; simp⟩
    · rw [rvs_end hd b r q (by omega) hh (by omega)] at h
      split at h
      · rename_i hc
        simp at h
        exact ⟨[b], r, rfl, by simp, by simp; omega, by rw [← h.1]; exact hc.2.symm⟩
      · cases h
theorem extract_list (s : ByteArray) (a b : Nat) : (s.extract a b).data.toList = (s.data.toList.drop a).take (b - a) := by
  simp [ByteArray.data_extract]
theorem readVar_vt {s : ByteArray} {a n p : Nat} (h : readVar s a = some (n, p)) : a < p ∧ n ≤ 1000000000 ∧ s.extract a p = ⟨(vt n).toArray⟩ := by
  have hn := rv_bounds _ _ _ _ _ _ _ h
  obtain ⟨mid, r, e1, e2, e3, e4⟩ := rvs_vt _ [] a n p (fun _ h => by simp at h) (by simp) h
  refine ⟨by omega, hn.1, ?_⟩
  apply Go.WideShapes.bytes_inj
  rw [extract_list, e1]
  have : p - a = mid.length := by omega
  rw [this, List.take_left' rfl]
  simpa using e4
end Go.Proofs.Ytdglbakdianjkaa.W
/- EdS: What the program reads of a record's text, plain: it is what the model reads. -/
namespace Go.Proofs.Ytdglbakdianjkaa
open Go.RowKit
open Go.PlainAid (bt)

/-- What the program reads. -/
def progE (s : ByteArray) : Option EM :=
  if 2 ≤ s.size then
    match readShortI s 2 with
    | none => none
    | some (p, a1) => match readShortI s (a1 : Nat) with
      | none => none
      | some (t, a2) => match readVarI s (a2 : Nat) with
        | none => none
        | some (n, a3) => if (a3 = s.size ∧ editOk ⟨bt s 0, p, t, (n : Nat), bt s 1⟩ = true) then some ⟨bt s 0, p, t, (n : Nat), bt s 1⟩ else none
  else none
theorem ext_app (s : ByteArray) (a b c : Nat) (h1 : a ≤ b) (h2 : b ≤ c) : s.extract a b ++ s.extract b c = s.extract a c := by
  rw [ByteArray.extract_append_extract, Nat.min_eq_left h1, Nat.max_eq_right h2]
theorem short_bytes {s t : ByteArray} {a b : Nat} (h : readShortI s (a : Nat) = some (t, b)) : a ≤ b ∧ b ≤ s.size ∧ s.extract a b = vb t.size ++ t := by
  unfold readShortI at h
  cases hv : readVarI s (a : Nat) with
  | none => rw [hv] at h; cases h
  | some x =>
    obtain ⟨n, p⟩ := x
    have hb := readVarI_bounds hv
    rw [hv] at h
    dsimp only at h
    unfold readVarI at hv
    split at hv
    · rename_i ha
      obtain ⟨h1, h2, h3⟩ := W.readVar_vt hv
      rw [Int.toNat_natCast] at h1 h3
      split at h
      · rename_i hc
        cases h
        have hs : (s.extract p (p + n)).size = n := by rw [ByteArray.size_extract]; omega
        refine ⟨by omega, by omega, ?_⟩
        rw [hs, ← ext_app s a p (p + n) (by omega) (by omega), h3]
        rfl
      · cases h
    · cases hv
theorem var_bytes {s : ByteArray} {a n b : Nat} (h : readVarI s (a : Nat) = some (n, b)) : a ≤ b ∧ b ≤ s.size ∧ s.extract a b = vb n := by
  have hb := readVarI_bounds h
  unfold readVarI at h
  split at h
  · obtain ⟨h1, h2, h3⟩ := W.readVar_vt h
    rw [Int.toNat_natCast] at h1 h3
    exact ⟨by omega, hb.2, h3⟩
  · cases h
theorem bt_ofNat {s : ByteArray} {j : Nat} (h : j < s.size) : UInt8.ofNat (bt s j).toNat = (lb s)[j]'h := by
  rw [bt_at h]
  simp
theorem two_head {s : ByteArray} (h : 2 ≤ s.size) : s.extract 0 2 = ⟨#[UInt8.ofNat (bt s 0).toNat, UInt8.ofNat (bt s 1).toNat]⟩ := by
  rw [bt_ofNat (by omega), bt_ofNat (by omega)]
  apply ByteArray.ext
  apply Array.toList_inj.1
  show lb (s.extract 0 2) = _
  rw [ext_list]
  have hl : 2 ≤ (lb s).length := h
  have key : ∀ (L : List UInt8) (hL : 2 ≤ L.length), (L.drop 0).take (2 - 0) = [L[0], L[1]] := fun L hL => by
    match L, hL with
    | x :: y :: r, _ => rfl
  exact key (lb s) hl
theorem progE_text {s p t : ByteArray} {a1 a2 n a3 : Nat} (h : 2 ≤ s.size) (h1 : readShortI s 2 = some (p, a1)) (h2 : readShortI s (a1 : Nat) = some (t, a2)) (h3 : readVarI s (a2 : Nat) = some (n, a3)) :
    a3 ≤ s.size ∧ s.extract 0 a3 = editT ⟨bt s 0, p, t, (n : Nat), bt s 1⟩ := by
  obtain ⟨b1, c1, e1⟩ := short_bytes (a := 2) h1
  obtain ⟨b2, c2, e2⟩ := short_bytes h2
  obtain ⟨b3, c3, e3⟩ := var_bytes h3
  refine ⟨c3, ?_⟩
  rw [← ext_app s 0 a2 a3 (by omega) b3, ← ext_app s 0 a1 a2 (by omega) b2, ← ext_app s 0 2 a1 (by omega) b1, e1, e2, e3, two_head h]
  unfold editT
  simp only [ByteArray.append_assoc, Int.toNat_natCast]
theorem readE_prog (s : ByteArray) : readE s = match progE s with
    | some e => (e, true)
    | none => (zeroE, false) := by
  unfold readE progE
  by_cases h : 2 ≤ s.size
  · rw [if_pos h]
    cases h1 : readShortI s 2 with
    | none =>
      have e1 : part1 s = (⟨#[]⟩, 0, false) := by unfold part1; rw [h1]; rfl
      rw [if_neg]
      unfold isE
      rw [e1]
      simp
    | some x =>
      obtain ⟨p, a1⟩ := x
      have e1 : part1 s = (p, a1, true) := by unfold part1; rw [h1]; rfl
      dsimp only
      cases h2 : readShortI s (a1 : Nat) with
      | none =>
        have e2 : part2 s = (⟨#[]⟩, 0, false) := by unfold part2; rw [e1, h2]; rfl
        rw [if_neg]
        unfold isE
        rw [e2]
        simp
      | some x =>
        obtain ⟨t, a2⟩ := x
        have e2 : part2 s = (t, a2, true) := by unfold part2; rw [e1, h2]; rfl
        dsimp only
        cases h3 : readVarI s (a2 : Nat) with
        | none =>
          have e3 : part3 s = (0, 0, false) := by unfold part3; rw [e2, h3]; rfl
          rw [if_neg]
          unfold isE
          rw [e3]
          simp
        | some x =>
          obtain ⟨n, a3⟩ := x
          have e3 : part3 s = (n, a3, true) := by unfold part3; rw [e2, h3]; rfl
          obtain ⟨hle, ht⟩ := progE_text h h1 h2 h3
          have ew : wouldE s = ⟨bt s 0, p, t, (n : Nat), bt s 1⟩ := by unfold wouldE; rw [e1, e2, e3]
          unfold isE
          rw [e1, e2, e3, ew]
          dsimp only
          rw [← ht]
          have hi : (s.extract 0 a3 = s) ↔ a3 = s.size := by
            constructor
            · intro e
              have := congrArg ByteArray.size e
              rw [ByteArray.size_extract] at this
              omega
            · rintro rfl
              exact ByteArray.extract_zero_size
          by_cases ha : a3 = s.size
          · simp [ha, h]
            split <;> rfl
          · simp [hi, ha]
  · rw [if_neg h, if_neg]
    unfold isE
    simp [h]
end Go.Proofs.Ytdglbakdianjkaa
/- VarBack: Plain facts: the bytes of a number are read back, whatever stands behind them. -/
namespace Go.Proofs.Ytdglbakdianjkaa.W

theorem rv_back (r : List UInt8) : ∀ (f m acc w : Nat) (first : Bool) (p : Nat), m ≤ f → (first = true ∨ 0 < m) → acc + m * w ≤ 1000000000 → 0 < w → w ≤ 1000000000 → rv acc w first (vtF f m ++ r) p = some (acc + m * w, p + (vtF f m).length)
  | 0, m, acc, w, first, p, hm, hf, hs, hw, hw2 => by
    have : m = 0 := by omega
    subst this
    have e : first = true := hf.elim id (fun h => by omega)
    subst e
    have eb : (UInt8.ofNat 0).toNat = 0 := rfl
    show rv acc w true (UInt8.ofNat 0 :: r) p = _
    rw [rv_done acc w true _ r p hw2 (by rw [eb]; omega) (.inr rfl) (by rw [eb]; omega), eb]
    simp [vtF]
  | f + 1, m, acc, w, first, p, hm, hf, hs, hw, hw2 => by
    by_cases hb : 127 < m
    · have e : vtF (f + 1) m = UInt8.ofNat (m % 128 + 128) :: vtF f (m / 128) := by rw [vtF, if_pos hb]
      have eb : (UInt8.ofNat (m % 128 + 128)).toNat = m % 128 + 128 := by simp; omega
      have hsplit : m * w = (m % 128) * w + (m / 128) * (w * 128) := by
        have h1 : m / 128 * (w * 128) = 128 * (m / 128) * w := by rw [Nat.mul_comm w 128, ← Nat.mul_assoc, Nat.mul_comm (m / 128) 128]
        rw [h1, ← Nat.add_mul]
        congr 1
        omega
      have hpos : 0 < m / 128 := by omega
      have hw3 : w * 128 ≤ (m / 128) * (w * 128) := Nat.le_mul_of_pos_left _ hpos
      rw [e, List.cons_append, rv_head acc w first _ _ p hw2 (by rw [eb]; omega), eb, Nat.add_sub_cancel, rv_back r f (m / 128) _ _ false (p + 1) (by omega) (.inr hpos) (by omega) (by omega) (by omega)]
      simp only [List.length_cons]
      congr 2
      · omega
      · omega
    · have e : vtF (f + 1) m = [UInt8.ofNat m] := by rw [vtF, if_neg hb]
      have eb : (UInt8.ofNat m).toNat = m := by simp; omega
      rw [e, List.singleton_append, rv_done acc w first _ _ p hw2 (by rw [eb]; omega) (by rw [eb]; exact hf.elim .inr (fun h => .inl (by omega))) (by rw [eb]; omega), eb]
      simp
theorem readVar_back (s : ByteArray) (a n : Nat) (r : List UInt8) (hn : n ≤ 1000000000) (h : s.data.toList.drop a = vt n ++ r) : readVar s a = some (n, a + (vt n).length) := by
  unfold readVar rvs
  rw [h]
  have := rv_back r n n 0 1 true a (Nat.le_refl _) (.inl rfl) (by omega) (by omega) (by omega)
  simpa [val, vt] using this
end Go.Proofs.Ytdglbakdianjkaa.W
/- EdX: Plain: a right record comes back from its text; what is read is the record of the text. -/
namespace Go.Proofs.Ytdglbakdianjkaa
open Go.RowKit
open Go.PlainAid (bt)

theorem lb_app (a b : ByteArray) : lb (a ++ b) = lb a ++ lb b := ByteArray.toList_data_append
theorem lb_vb (n : Nat) : lb (vb n) = W.vt n := by simp [vb, lb]
theorem lb_size (s : ByteArray) : (lb s).length = s.size := rfl
/-- A number that stands in a text. -/
theorem var_at {s : ByteArray} {a n : Nat} {r : List UInt8} (hn : n ≤ 1000000000) (h : (lb s).drop a = W.vt n ++ r) (ha : a ≤ s.size) : readVarI s (a : Nat) = some (n, a + (W.vt n).length) := by
  unfold readVarI
  rw [if_pos ⟨by omega, by omega⟩, Int.toNat_natCast]
  exact W.readVar_back s a n r hn h
/-- A short text that stands in a text. -/
theorem short_at {s t : ByteArray} {a : Nat} {r : List UInt8} (hn : t.size ≤ 20000) (h : (lb s).drop a = W.vt t.size ++ (lb t ++ r)) (ha : a ≤ s.size) : readShortI s (a : Nat) = some (t, a + (W.vt t.size).length + t.size) := by
  have hl := congrArg List.length h
  simp only [List.length_drop, List.length_append, lb_size] at hl
  unfold readShortI
  rw [var_at (by omega) h ha]
  dsimp only
  rw [if_pos ⟨hn, by omega⟩]
  have e : s.extract (a + (W.vt t.size).length) (a + (W.vt t.size).length + t.size) = t := by
    apply ByteArray.ext
    apply Array.toList_inj.1
    show lb _ = lb t
    rw [ext_list, ← List.drop_drop, h, List.drop_left' rfl]
    have : a + (W.vt t.size).length + t.size - (a + (W.vt t.size).length) = (lb t).length := by rw [lb_size]; omega
    rw [this, List.take_left' rfl]
  rw [e]
theorem lb_editT (e : EM) : lb (editT e) = UInt8.ofNat e.kind.toNat :: UInt8.ofNat e.who.toNat :: (W.vt e.path.size ++ (lb e.path ++ (W.vt e.dest.size ++ (lb e.dest ++ W.vt e.num.toNat)))) := by
  unfold editT
  rw [lb_app, lb_app, lb_app, lb_app, lb_app, lb_vb, lb_vb, lb_vb]
  show [UInt8.ofNat e.kind.toNat, UInt8.ofNat e.who.toNat] ++ _ ++ _ ++ _ ++ _ ++ _ = _
  simp only [List.append_assoc, List.cons_append, List.nil_append]
theorem read_back {e : EM} (h : editOk e = true) : readE (editT e) = (e, true) := by
  obtain ⟨n1, n2, n3, n4, n5, n6⟩ := edit_nums h
  obtain ⟨s1, s2⟩ := edit_small h
  have hl := lb_editT e
  have hs := congrArg List.length hl
  simp only [List.length_cons, List.length_append, lb_size] at hs
  have hsz : 2 ≤ (editT e).size := by omega
  have b0 : bt (editT e) 0 = e.kind := by
    rw [bt_at (by omega)]
    have : (lb (editT e))[0]'(by rw [lb_size]; omega) = UInt8.ofNat e.kind.toNat := by simp only [hl, List.getElem_cons_zero]
    rw [this]
    simp
    omega
  have b1 : bt (editT e) 1 = e.who := by
    rw [bt_at (by omega)]
    have : (lb (editT e))[1]'(by rw [lb_size]; omega) = UInt8.ofNat e.who.toNat := by simp only [hl, List.getElem_cons_succ, List.getElem_cons_zero]
    rw [this]
    simp
    omega
  have r1 := short_at (s := editT e) (t := e.path) (a := 2) (r := W.vt e.dest.size ++ (lb e.dest ++ W.vt e.num.toNat)) (by omega) (by rw [hl]; rfl) hsz
  have d1 : (lb (editT e)).drop (2 + (W.vt e.path.size).length + e.path.size) = W.vt e.dest.size ++ (lb e.dest ++ W.vt e.num.toNat) := by
    rw [hl, Nat.add_assoc, ← List.drop_drop]
    show List.drop _ (W.vt e.path.size ++ _) = _
    rw [← List.drop_drop, List.drop_left' rfl, ← lb_size, List.drop_left' rfl]
  have r2 := short_at (s := editT e) (t := e.dest) (r := W.vt e.num.toNat) (by omega) d1 (by omega)
  have d2 : (lb (editT e)).drop (2 + (W.vt e.path.size).length + e.path.size + (W.vt e.dest.size).length + e.dest.size) = W.vt e.num.toNat ++ [] := by
    rw [Nat.add_assoc, ← List.drop_drop, d1, ← List.drop_drop, List.drop_left' rfl, ← lb_size, List.drop_left' rfl, List.append_nil]
  have r3 := var_at (s := editT e) (by omega) d2 (by omega)
  have he : (⟨bt (editT e) 0, e.path, e.dest, ((e.num.toNat : Nat) : Int), bt (editT e) 1⟩ : EM) = e := by
    rw [b0, b1, Int.toNat_of_nonneg n5]
  rw [readE_prog]
  have : progE (editT e) = some e := by
    unfold progE
    rw [if_pos hsz]
    have r1' : readShortI (editT e) 2 = some (e.path, 2 + (W.vt e.path.size).length + e.path.size) := r1
    rw [r1']
    dsimp only
    rw [r2]
    dsimp only
    rw [r3]
    dsimp only
    rw [he, if_pos ⟨by omega, h⟩]
  rw [this]
theorem read_is {s : ByteArray} (h : (readE s).2 = true) : editOk (readE s).1 = true ∧ editT (readE s).1 = s := by
  unfold readE at h ⊢
  split at h
  · rename_i hc
    rw [if_pos hc]
    unfold isE at hc
    simp only [Bool.and_eq_true, decide_eq_true_eq] at hc
    exact ⟨hc.1.2, hc.2⟩
  · cases h
theorem editT_size {e : EM} (h : editOk e = true) : (editT e).size ≤ 100000 := by
  obtain ⟨n1, n2, n3, n4, n5, n6⟩ := edit_nums h
  obtain ⟨s1, s2⟩ := edit_small h
  have hs := congrArg List.length (lb_editT e)
  simp only [List.length_cons, List.length_append, lb_size] at hs
  have v1 := W.vt_len e.path.size
  have v2 := W.vt_len e.dest.size
  have v3 := W.vt_len e.num.toNat
  omega
end Go.Proofs.Ytdglbakdianjkaa
