/- Texts of ours, laid one behind the other: DrPk, DrPth, FrT, OpenC, LawPts, PaL, SpnB, StI, SchQ, EdP, EdQ, ShortText, PathS, EdR, EdS. -/
import Derived.Test.YtoglebfiobofoaaDoorPl5
import Derived.OpenShut
import Derived.Deep.AppendLies
/- DrPk: A text that is picked out of a row is one of it. -/
namespace Go.Proofs.YtoglebfiobofoaaDoor
set_option maxRecDepth 100000
open Go.RowKit
attribute [local go_sem ↓] Go.wp_at_zero Go.wp_at_succ

/-- No byte of it is a z. -/
def noZ (t : ByteArray) : Bool := t.data.toList.all (· != 122)
theorem noZ_app (a b : ByteArray) : noZ (a ++ b) = (noZ a && noZ b) := by unfold noZ; rw [ByteArray.toList_data_append, List.all_append]
def PickPostS (P : ByteArray → Prop) (w : World) (g B : Nat) (a : Option Addr) (len cap : Nat) (e : Ending) (w' : World) : Prop :=
  ∃ x : ByteArray, e = .returned (.string x) ∧ P x ∧ Cur w' g B a len cap ∧ w.grownBy w' (some g)
/-- Texts that were laid into a new row. -/
theorem new_texts (w : World) (t : TypeId) (P : ByteArray → Prop) (L : List ByteArray) (h : ∀ y ∈ L, P y) (j : Nat) (hj : j < L.length) :
    ∃ y : ByteArray, (w.alloc (.cells (L.map Value.string).toArray t)).cell? ⟨w.heap.size, j, none⟩ = some (.string y) ∧ P y := by
  rw [World.cell?_alloc_mark]
  exact ⟨L[j], by simp [hj], h _ (List.getElem_mem hj)⟩
end Go.Proofs.YtoglebfiobofoaaDoor
/- DrPth: The draws of paths. -/
namespace Go.Proofs.YtoglebfiobofoaaDoor
set_option maxRecDepth 100000
open Go.RowKit
attribute [local go_sem ↓] Go.wp_at_zero Go.wp_at_succ

def PathPost (m : Nat) (w : World) (g B : Nat) (a : Option Addr) (len cap : Nat) (e : Ending) (w' : World) : Prop :=
  ∃ t : ByteArray, e = .returned (.string t) ∧ (t.size ≤ m ∧ noZ t = true) ∧ Cur w' g B a len cap ∧ w.grownBy w' (some g)
theorem any_texts (w : World) (j : Nat) (hj : j < 11) : ∃ y : ByteArray, (w.alloc (.cells #[.string ⟨#[]⟩, .string ⟨#[47]⟩, .string ⟨#[97]⟩, .string ⟨#[47, 65]⟩, .string ⟨#[47, 47]⟩, .string ⟨#[47, 97, 47]⟩, .string ⟨#[47, 97, 47, 47, 98]⟩, .string ⟨#[47, 97, 47, 98, 47, 99, 47, 97]⟩, .string ⟨#[47, 97, 47, 98, 47, 99, 47, 97, 47, 98]⟩, .string ⟨#[47, 97, 98, 99, 100, 101, 102, 103, 104]⟩, .string ⟨#[47, 97, 98, 99, 100, 101, 102, 103, 104, 105]⟩] 9)).cell? ⟨w.heap.size, j, none⟩ = some (.string y) ∧ (y.size ≤ 16 ∧ noZ y = true) :=
  new_texts w 9 (fun y => y.size ≤ 16 ∧ noZ y = true) [⟨#[]⟩, ⟨#[47]⟩, ⟨#[97]⟩, ⟨#[47, 65]⟩, ⟨#[47, 47]⟩, ⟨#[47, 97, 47]⟩, ⟨#[47, 97, 47, 47, 98]⟩, ⟨#[47, 97, 47, 98, 47, 99, 47, 97]⟩, ⟨#[47, 97, 47, 98, 47, 99, 47, 97, 47, 98]⟩, ⟨#[47, 97, 98, 99, 100, 101, 102, 103, 104]⟩, ⟨#[47, 97, 98, 99, 100, 101, 102, 103, 104, 105]⟩] (by decide) j hj
end Go.Proofs.YtoglebfiobofoaaDoor
/- FrT: The laws' own comparison of two rows of texts. -/
namespace Go.Proofs.YtoglebfiobofoaaDoor
set_option maxRecDepth 100000
open Go.RowKit

end Go.Proofs.YtoglebfiobofoaaDoor
/- OpenC: The code that a drawn law is handed: what came in. -/
namespace Go.Proofs.YtoglebfiobofoaaDoor
set_option maxRecDepth 100000
open Go.RowKit Go.ChangeShapes Go.WideShapes
set_option maxRecDepth 100000 in
theorem open_code {H : Type} {enc : TypeId × Value → H} {W : World} {r : Reach} {b0 base : Nat} {held : Bool} {v : Value} {d : DataW H} {p : List MemPlace}
    (hv : Value.okWide Tryd.prog W r b0 59 v) (h : DataW.Trod enc Tryd.prog W base (fun _ => true) held 59 v d p) : ∃ a len cap, v = .slice a len cap ∧ (len ≤ 1048576 → CodeAt W W.heap.size a len) := by
  obtain ⟨a0, l0, c0, rfl⟩ := okWide_slice Tryd.underlying59 hv
  refine ⟨a0, l0, c0, rfl, fun hl => ?_⟩
  obtain ⟨fuel, hf⟩ := h
  rcases open_ints Tryd.underlying59 Tryd.underlying5 (by kernel_rfl) hf with ⟨hcs, _⟩ | ⟨x, l, c, zs, hcs, _, hl', hm, hz, _, hcell, hwz⟩
  · simp [Value.cells] at hcs
    obtain ⟨rfl, rfl, rfl⟩ := hcs
    exact code_at (cap := 0) (zs := []) hl (.inl ⟨rfl, rfl⟩)
  · simp [Value.cells] at hcs
    obtain ⟨rfl, rfl, rfl⟩ := hcs
    exact code_at (cap := c0) (zs := zs) hl (.inr ⟨_, rfl, hl', by simpa using hz, hcell, hwz⟩)
end Go.Proofs.YtoglebfiobofoaaDoor
/- LawPts: The walk of the law over paths, over what is told of the program's own functions. -/
namespace Go.Proofs.YtoglebfiobofoaaDoor
set_option maxRecDepth 100000
open Go.RowKit
attribute [local go_sem ↓] Go.wp_at_zero Go.wp_at_succ

structure PathsAll : Prop where
  name : ∀ (t : ByteArray) (w : World), t.size ≤ 1048576 → Calls Tryd.prog 72 #[.string t] w fun e w' => e = .returned (.bool (nameB t)) ∧ Below w.heap.size w w'
  split : ∀ (t : ByteArray) (w : World), t.size ≤ 1048576 → Calls Tryd.prog 69 #[.string t] w fun e w' => QPost (splitB t) w e w'
  join : ∀ (w : World) (u : Value) (L : List ByteArray) (lo hi : Nat), CSee w u L lo hi → TFit L → Calls Tryd.prog 70 #[u] w fun e w' => e = .returned (.string (joinB L)) ∧ Below w.heap.size w w'
  parent : ∀ (t : ByteArray) (w : World), t.size ≤ 1048576 → Calls Tryd.prog 63 #[.string t] w fun e w' => ParPost t w e w'
theorem eq_toList (x : ByteArray) : (x.toList == x.toList) = true := by simp
theorem slash_toList : ((⟨#[47]⟩ : ByteArray).toList == [47]) = true := by rw [Go.ByteArray.toList_eq]; rfl
theorem none_toList : ((⟨#[]⟩ : ByteArray).toList == []) = true := by rw [Go.ByteArray.toList_eq]; rfl
theorem join_size {I : List ByteArray} (h : TFit I) : (joinB I).size ≤ 1048576 := by
  by_cases e : I = []
  · subst e; decide
  · rw [joinB_ne e, joinA_size]; exact h
end Go.Proofs.YtoglebfiobofoaaDoor
/- PaL: The program's own JoinPath and ParentPath; all four together. -/
namespace Go.Proofs.YtoglebfiobofoaaDoor
set_option maxRecDepth 100000
open Go.RowKit
open Go.PlainAid (bt)
attribute [local go_sem ↓] Go.wp_at_zero Go.wp_at_succ

theorem lib_join (L : List (List UInt8)) : (47 :: Lib.join L [47]) = joinP L := by
  cases L with
  | nil => rfl
  | cons x L =>
    unfold joinP
    rw [if_neg (by simp)]
    induction L generalizing x with
    | nil => simp [Lib.join]
    | cons y L ih =>
      have := ih y
      simp only [List.map_cons, List.flatten_cons, List.cons_append, List.cons.injEq, true_and] at this ⊢
      rw [← this]
      simp [Lib.join]
theorem joinP_len (L : List ByteArray) (h : TFit L) : (Lib.join (L.map lb) [47]).length ≤ 2097152 := by
  have e := congrArg List.length (lib_join (L.map lb))
  have := join_size h
  have hb : (joinB L).size = (joinP (L.map lb)).length := by
    unfold joinB
    show (joinP (L.map lb)).toArray.size = _
    simp
  rw [List.length_cons] at e
  omega
set_option maxRecDepth 100000 in
set_option maxHeartbeats 1000000 in
theorem implJoinPath (w : World) (u : Value) (L : List ByteArray) (lo hi : Nat) (hu : CSee w u L lo hi) (hf : TFit L) : Calls Tryd.prog 70 #[u] w fun e w' => e = .returned (.string (joinB L)) ∧ Below w.heap.size w w' := by
  obtain ⟨a, cap, rfl, hc, hr⟩ := hu
  have hjl := joinP_len L hf
  have HJ : Shut (joinB L = (⟨#[47]⟩ : ByteArray) ++ ⟨(Lib.join (L.map lb) [47]).toArray⟩) := ⟨by
    unfold joinB
    rw [← lib_join]
    apply ByteArray.ext
    simp⟩
  by_cases h0 : L = []
  · subst h0
    have HN := Shut.mk (fun W => Tryd.strings_Join_none a cap ⟨#[47]⟩ W)
    clear hr hf hjl
    go_enter Tryd.func70, Tryd.ntmps70
    go_wp2_with fail
    refine (HN.out _).mono ?_
    rintro e w1 ⟨rfl, hw⟩
    subst hw
    go_wp2_with fail
    go_ret
    exact ⟨rfl, Below.refl _ _⟩
  · obtain ⟨b, off, rfl, hb, hcs⟩ := units_at hr (List.length_pos_iff.2 h0)
    have hn : L.length ≤ 1048576 := by unfold TFit at hf; omega
    have HN := Shut.mk (Tryd.strings_Join b off cap L ⟨#[47]⟩ w (fun j x hx => by
      obtain ⟨hj, e⟩ := List.getElem?_eq_some_iff.1 hx
      have := hcs j hj
      rw [this]
      simp [List.getD, hj, e]) hb (by omega) hc (by
        show (Lib.join (L.map lb) [47]).length ≤ _
        omega))
    have hsz : ((⟨(Lib.join (L.map lb) [47]).toArray⟩ : ByteArray)).size ≤ 2097152 := by
      show (Lib.join (L.map lb) [47]).toArray.size ≤ _
      simpa using hjl
    have HN' : Shut (Calls Tryd.prog 73 #[.slice (some ⟨b, off, none⟩) L.length cap, .string ⟨#[47]⟩] w fun e w' => e = .returned (.string ⟨(Lib.join (L.map lb) [47]).toArray⟩) ∧ Below w.heap.size w w') := HN
    generalize (⟨(Lib.join (L.map lb) [47]).toArray⟩ : ByteArray) = J at *
    clear hr hf hjl hcs HN h0
    go_enter Tryd.func70, Tryd.ntmps70
    go_wp2_with fail
    refine HN'.out.mono ?_
    rintro e w1 ⟨rfl, hb1⟩
    go_wp2_with fail
    go_ret
    exact ⟨by rw [HJ.out]; rfl, hb1⟩
theorem OwnAt.form {w : World} {base n : Nat} {v : Value} {L : List ByteArray} (h : OwnAt w base v n L) : ∃ a cap, v = .slice a n cap := by
  obtain ⟨_, ⟨e, h0⟩ | ⟨g, off, cap, e, _⟩⟩ := h
  · exact ⟨none, 0, by rw [e, h0]⟩
  · exact ⟨_, cap, e⟩
theorem OwnAt.some' {w : World} {base n : Nat} {v : Value} {L : List ByteArray} (h : OwnAt w base v n L) (hp : 0 < n) : ∃ g off cap, v = .slice (some ⟨g, off, none⟩) n cap ∧ n ≤ cap ∧ g < w.heap.size ∧ ∀ j, j < L.length → w.cell? ⟨g, off + j, none⟩ = some (.string (L.getD j ⟨#[]⟩)) := by
  obtain ⟨_, ⟨_, h0⟩ | ⟨g, off, cap, e, _, hn, _, hc⟩⟩ := h
  · omega
  · exact ⟨g, off, cap, e, hn, hc.1, fun j hj => (hc.2 j hj).1⟩
theorem CSee.below {w w' : World} {v : Value} {L : List ByteArray} {lo hi : Nat} (h : CSee w v L lo hi) (hb : Below w.heap.size w w') : CSee w' v L lo hi := by
  obtain ⟨a, cap, e, hc, hr⟩ := h
  obtain ⟨a', cap', e', hr'⟩ := (show SSee w v L lo hi from ⟨a, cap, e, hr⟩).below hb
  rw [e] at e'
  cases e'
  exact ⟨a, cap, e, hc, hr'⟩
set_option maxRecDepth 100000 in
set_option maxHeartbeats 2000000 in
theorem implParentPath (p : ByteArray) (w : World) (hs : p.size ≤ 1048576) : Calls Tryd.prog 63 #[.string p] w fun e w' => ParPost p w e w' := by
  have HS := Shut.mk (fun W => implSplitPath p W hs)
  have hnm := splitB_names p
  unfold QPost at HS
  unfold ParPost
  obtain ⟨L, ok, hre⟩ : ∃ L ok, splitB p = (L, ok) := ⟨_, _, rfl⟩
  rw [hre] at HS hnm
  have HN := Shut.mk hnm
  clear hnm
  cases ok with
  | false =>
    rw [parent_no hre (.inl rfl)]
    clear hre
    go_enter Tryd.func63, Tryd.ntmps63
    go_wp2_with fail
    refine (HS.out _).mono ?_
    rintro e w1 ⟨v, rfl, ho, hb⟩
    obtain ⟨a, cap, rfl⟩ := ho.form
    have HB := Shut.mk hb
    clear ho hb
    go_wp2_with fail
    go_ret3
    exact ⟨rfl, HB.out⟩
  | true =>
    rcases List.eq_nil_or_concat L with rfl | ⟨I, x, rfl⟩
    · rw [parent_no hre (.inr rfl)]
      clear hre
      go_enter Tryd.func63, Tryd.ntmps63
      go_wp2_with fail
      refine (HS.out _).mono ?_
      rintro e w1 ⟨v, rfl, ho, hb⟩
      obtain ⟨a, cap, rfl⟩ := ho.form
      have HB := Shut.mk hb
      clear ho hb
      go_wp2_with fail
      go_ret3
      exact ⟨rfl, HB.out⟩
    · rw [List.concat_eq_append] at *
      rw [parent_yes hre]
      obtain ⟨J, hJ⟩ : ∃ J, J = joinB I := ⟨_, rfl⟩
      have HJE := Shut.mk hJ
      rw [← hJ]
      clear hJ
      have h4 := HN.out.2
      have HF : Shut (TFit I) := ⟨names_fit (fun s h => HN.out.1 s (List.mem_append.2 (.inl h))) (by rw [List.length_append] at h4; omega)⟩
      obtain ⟨m, hm⟩ : ∃ m, m = I.length := ⟨_, rfl⟩
      have HM := Shut.mk hm
      have hm4 : m ≤ 4 := by rw [List.length_append] at h4; omega
      rw [show (I ++ [x], true).1.length = m + 1 by simp [hm]] at HS
      clear hre h4 hm
      go_enter Tryd.func63, Tryd.ntmps63
      go_wp2_with fail
      refine (HS.out _).mono ?_
      rintro e w1 ⟨v, rfl, ho, hb⟩
      obtain ⟨g, off, cap, rfl, hcap, hg, hcs⟩ := ho.some' (by omega)
      have d0 : w1.cell? ⟨g, off + m, none⟩ = some (.string x) := by
        rw [hcs m (by rw [List.length_append, HM.out]; simp)]
        simp [List.getD, HM.out]
      have hsee : CSee w1 (.slice (some ⟨g, off, none⟩) m cap) I 0 w1.heap.size := ⟨_, cap, by rw [HM.out], by rw [← HM.out]; omega, fun _ => ⟨g, off, rfl, Nat.zero_le _, hg, hg, fun i u hu => by
        have hi : i < I.length := by
          have := (List.getElem?_eq_some_iff.1 hu).1
          rwa [tv_len] at this
        rw [tv_get I i hi] at hu
        cases hu
        rw [hcs i (by rw [List.length_append]; omega)]
        simp [List.getD, List.getElem?_append_left hi]⟩⟩
      have HJ := Shut.mk (fun W (hW : Below w1.heap.size w1 W) => implJoinPath W _ _ _ _ (hsee.below hW) HF.out)
      have HB := Shut.mk hb
      have hm0 : (((m + 1 : Nat) : Int) == 0) = false := by rw [beq_eq_false_iff_ne]; omega
      obtain ⟨n, hn⟩ : ∃ n, n = m + 1 := ⟨_, rfl⟩
      rw [← hn] at hcap hm0 ⊢
      have hnm : (n : Int) - 1 = (m : Int) := by omega
      have hmn : (m : Int) < (n : Int) := by omega
      have hmc : (m : Int) ≤ (cap : Int) := by omega
      have hm9 : (0 : Int) ≤ (m : Int) := by omega
      have hwr : IntKind.i64.wrap ((n : Int) - 1) = (m : Int) := by rw [hnm]; exact IntWalk.i64_in _ ⟨by omega, by omega⟩
      rw [← HJE.out] at HJ
      clear ho hb hcs hsee hn HN HM hnm
      go_wp2_with fail
      go_region_held3 (fun w' => w'.cell? ⟨g, off + m, none⟩ = some (.string x))
        (first | assumption | (exact (hb9.cell (p := ⟨g, off + m, none⟩) hg).trans (by assumption)) | go_keep)
        (first | (go_at_call 70; refine (HJ.out _ (by first | exact Below.refl _ _ | exact Below.drew (Below.refl _ _))).mono ?_; rintro e w9 ⟨rfl, hb9⟩))
      all_goals
        go_wp2_with fail
        go_ret3
        exact ⟨rfl, by first | exact HB.out.trans (hb9.mono HB.out.size) | exact HB.out.trans (((Below.drew (Below.refl w1.heap.size w1)).trans hb9).mono HB.out.size)⟩
theorem pathsAll : PathsAll := ⟨implNameOk, implSplitPath, implJoinPath, implParentPath⟩
end Go.Proofs.YtoglebfiobofoaaDoor
/- SpnB: Rows of numbers as values; the walk of the model's Spans. -/
namespace Go.Proofs.YtoglebfiobofoaaDoor
set_option maxRecDepth 100000
open Go.RowKit
attribute [local go_sem ↓] Go.wp_at_zero Go.wp_at_succ

/-- A value that is these numbers, in memory of its own. -/
def IAns (w : World) (v : Value) (xs : List Int) (lo hi : Nat) : Prop := ∃ (a : Option Addr) (cap : Nat), v = .slice a xs.length cap ∧ xs.length ≤ cap ∧ (xs = [] ∨ ∃ g, a = some ⟨g, 0, none⟩ ∧ lo ≤ g ∧ g < hi ∧ WCells w g (ics xs))
theorem IAns.empty (w : World) (a : Option Addr) (cap lo hi : Nat) : IAns w (.slice a 0 cap) [] lo hi := ⟨a, cap, rfl, Nat.zero_le _, .inl rfl⟩
theorem IAns.crow {w : World} {v : Value} {xs : List Int} {lo hi : Nat} (h : IAns w v xs lo hi) : ∃ a cap, v = .slice a xs.length cap ∧ CRow w a (ics xs) := by
  obtain ⟨a, cap, e, _, q⟩ := h
  refine ⟨a, cap, e, ?_⟩
  rcases q with rfl | ⟨g, rfl, _, _, q⟩
  · intro h; simp [ics] at h
  · exact q.crow
theorem IAns.turned {w w' : World} {v : Value} {xs : List Int} {lo hi lo' hi' : Nat} (h : IAns w v xs lo hi) (t : Turned w w' lo' hi') (hd : hi ≤ lo' ∨ hi' ≤ lo) : IAns w' v xs lo hi := by
  obtain ⟨a, cap, e, hc, q⟩ := h
  refine ⟨a, cap, e, hc, ?_⟩
  rcases q with rfl | ⟨g, rfl, h1, h2, h3⟩
  · exact .inl rfl
  · exact .inr ⟨g, rfl, h1, h2, h3.turned t (by omega)⟩
theorem IAns.below {w w' : World} {v : Value} {xs : List Int} {lo hi : Nat} (h : IAns w v xs lo hi) (hb : Below w.heap.size w w') : IAns w' v xs lo hi := by
  obtain ⟨a, cap, e, hc, q⟩ := h
  refine ⟨a, cap, e, hc, ?_⟩
  rcases q with rfl | ⟨g, rfl, h1, h2, h3⟩
  · exact .inl rfl
  · exact .inr ⟨g, rfl, h1, h2, h3.below hb h3.1⟩
def IPost (xs : List Int) (w : World) (e : Ending) (w' : World) : Prop := ∃ v, e = .returned v ∧ IAns w' v xs w.heap.size w'.heap.size ∧ Below w.heap.size w w'
theorem own_ians {w w' : World} {v : Value} {xs : List Int} {n : Nat} (hn : xs.length = n) (h : w'.ownsRow w.heap.size 3 1 v n (ics xs)) : IAns w' v xs w.heap.size w'.heap.size := by
  have hlt := h.lt
  have hown := h
  subst hn
  obtain ⟨_, ⟨rfl, h0⟩ | ⟨g, cap, cur, rfl, hB, hcur, hn, _⟩⟩ := h
  · have : xs = [] := List.eq_nil_of_length_eq_zero h0
    subst this
    exact IAns.empty _ _ _ _ _
  · exact ⟨_, cap, rfl, hn, .inr ⟨g, rfl, hB, (hlt g rfl).2, own_wcells hown⟩⟩
/-- The lengths of the groups of so many bytes. -/
def spanL (S n : Nat) : List Int := List.replicate ((n - 1) / S) (S : Int) ++ [((n - (n - 1) / S * S : Nat) : Int)]
def spansX (s n : Int) : List Int := if schOk s = true ∧ 1 ≤ n ∧ n ≤ 1000 then spanL (groupN s) n.toNat else []
theorem spansX_no {s n : Int} (h : ¬ (schOk s = true ∧ 1 ≤ n ∧ n ≤ 1000)) : spansX s n = [] := if_neg h
theorem group_pos {s : Int} (h : schOk s = true) : 16 ≤ groupN s := by have := (sch_bounds h).1; unfold groupN; omega
theorem group_zero {s : Int} (h : schOk s = false) : groupN s = 0 := by unfold groupN; rw [(sch_zero h).1]
theorem span_last {S n j : Nat} (hS : 0 < S) (h1 : j * S < n) (h2 : n ≤ j * S + S) : (n - 1) / S = j := by
  have e : n - 1 = (n - 1 - j * S) + j * S := by omega
  rw [e, Nat.add_mul_div_right _ _ hS, Nat.div_eq_of_lt (by omega), Nat.zero_add]
end Go.Proofs.YtoglebfiobofoaaDoor
/- StI: The program's own SchemaOf, GroupSize, PlaceOf, OffsetOf and Spans. -/
namespace Go.Proofs.YtoglebfiobofoaaDoor
set_option maxRecDepth 100000
open Go.RowKit
attribute [local go_sem ↓] Go.wp_at_zero Go.wp_at_succ

theorem implSch (s : Int) (w : World) : Calls Tryd.prog 64 #[.int .i64 s] w fun e w' => SchPost s w e w' := by
  cases h : schOk s with
  | true =>
    obtain rfl | rfl | rfl := sch_cases h
    all_goals
      clear h
      go_enter Tryd.func64, Tryd.ntmps64
      go_wp2_with fail
      go_ret3
      exact ⟨rfl, rfl⟩
  | false =>
    obtain ⟨h1, h2, h3⟩ := sch_no h
    obtain ⟨e1, e2⟩ := sch_zero h
    unfold SchPost
    rw [e1, e2, h]
    clear h e1 e2
    go_enter Tryd.func64, Tryd.ntmps64
    go_wp2_with fail
    go_ret3
    exact ⟨rfl, rfl⟩
theorem span_one {S n j : Nat} (h1 : j * S < n) (h2 : n ≤ j * S + S) (hS : 0 < S) : spanL S n = List.replicate j (S : Int) ++ [((n - j * S : Nat) : Int)] := by
  unfold spanL
  rw [span_last hS h1 h2]
end Go.Proofs.YtoglebfiobofoaaDoor
/- SchQ: The program's own test of a schema. -/
namespace Go.Proofs.YtoglebfiobofoaaDoor
set_option maxRecDepth 100000
open Go.RowKit BigFrame
attribute [local go_sem ↓] Go.wp_at_zero Go.wp_at_succ

theorem sch_in (s : Int) : schOk s = inI s 1 3 := by
  cases h : schOk s with
  | true =>
    obtain rfl | rfl | rfl := sch_cases h <;> rfl
  | false =>
    obtain ⟨h1, h2, h3⟩ := sch_no h
    symm
    refine Bool.eq_false_iff.2 fun hc => ?_
    have := inI_iff.1 hc
    omega
theorem implSchemaOk (s : Int) (w : World) : Calls Tryd.prog 53 #[.int .i64 s] w fun e w' => e = .returned (.bool (inI s 1 3)) ∧ w' = w := by
  have HS := Shut.mk (fun W => implSch s W)
  unfold SchPost at HS
  rw [sch_in] at HS
  generalize inI s 1 3 = ok at *
  generalize schM s = m at *
  generalize schK s = k at *
  go_enter Tryd.func53, Tryd.ntmps53
  go_wp2_with fail
  refine (HS.out _).mono ?_
  rintro e w1 ⟨rfl, rfl⟩
  go_wp2_with fail
  go_ret
  exact ⟨rfl, rfl⟩
end Go.Proofs.YtoglebfiobofoaaDoor
/- EdP: The program's own test of a record. -/
namespace Go.Proofs.YtoglebfiobofoaaDoor
set_option maxRecDepth 100000
open Go.RowKit BigFrame
attribute [local go_sem ↓] Go.wp_at_zero Go.wp_at_succ

theorem implHasName (p : ByteArray) (w : World) (hs : p.size ≤ 1048576) : Calls Tryd.prog 52 #[.string p] w fun e w' => e = .returned (.bool (named p)) ∧ Below w.heap.size w w' := by
  have HC := Shut.mk (fun W => implParentPath p W hs)
  unfold ParPost at HC
  have e0 : named p = (parentB p).2.2 := rfl
  rw [e0]
  generalize (parentB p).2.2 = a at *
  generalize (parentB p).2.1 = b at *
  generalize (parentB p).1 = c at *
  clear hs e0
  go_enter Tryd.func52, Tryd.ntmps52
  go_wp2_with fail
  refine (HC.out _).mono ?_
  rintro e w1 ⟨rfl, hb⟩
  go_wp2_with fail
  go_ret
  exact ⟨rfl, hb⟩
/-- What the program asks of a record's path, of where it goes, of its number, of who. -/
def pathQ (e : EM) : Bool := if e.kind = 10 then e.path.toList == [47] else if e.kind = 5 ∨ e.kind = 6 then (e.path.toList == [47]) || named e.path else named e.path
def destQ (e : EM) : Bool := if e.kind = 3 then named e.dest else e.dest.toList == []
def numQ (e : EM) : Bool := if e.kind = 5 then inI e.num 1 3 else if e.kind = 6 then inI e.num 0 1000 else if e.kind = 7 then inI e.num 1 200 else e.num == 0
def whoQ (e : EM) : Bool := if e.kind = 2 ∨ e.kind = 9 then inI e.who 1 9 else e.who == 0
theorem not_named_nil {p : ByteArray} (h : (p.toList == []) = true) : named p = false := by
  rw [Go.ByteArray.toList_eq, beq_iff_eq] at h
  have hp : p = ⟨#[]⟩ := ByteArray.ext (Array.toList_inj.1 h)
  subst hp
  rfl
theorem edit_is (e : EM) : editOk e = (inI e.kind 1 10 && pathQ e && destQ e && numQ e && whoQ e) := by
  unfold editOk pathBad numsOk pathQ destQ numQ whoQ
  have hn := @not_named_nil e.dest
  generalize named e.dest = nd at *
  generalize named e.path = np at *
  generalize (e.path.toList == [47]) = rt at *
  have hne : (e.dest.toList != []) = !(e.dest.toList == []) := rfl
  rw [hne]
  generalize (e.dest.toList == []) = te at *
  generalize inI e.num 1 3 = a1 at *
  generalize inI e.num 0 1000 = a2 at *
  generalize inI e.num 1 200 = a3 at *
  generalize inI e.who 1 9 = a4 at *
  generalize (e.num == 0) = a5 at *
  generalize (e.who == 0) = a6 at *
  cases hk : inI e.kind 1 10 with
  | false => simp
  | true =>
    have hk' := inI_iff.1 hk
    have hc : e.kind = 1 ∨ e.kind = 2 ∨ e.kind = 3 ∨ e.kind = 4 ∨ e.kind = 5 ∨ e.kind = 6 ∨ e.kind = 7 ∨ e.kind = 8 ∨ e.kind = 9 ∨ e.kind = 10 := by omega
    rcases hc with h | h | h | h | h | h | h | h | h | h <;> rw [h] <;> simp <;> revert hn <;> cases nd <;> cases te <;> simp <;> cases np <;> cases rt <;> simp [Bool.and_comm]
set_option maxRecDepth 100000 in
set_option maxHeartbeats 1000000 in
theorem implPathQ (e : EM) (w : World) (hf : EFit e) : Calls Tryd.prog 43 #[ev e] w fun r w' => r = .returned (.bool (pathQ e)) ∧ Below w.heap.size w w' := by
  have HN := Shut.mk (fun W => implHasName e.path W hf.1)
  have HR : Shut (pathQ e = if e.kind = 10 then e.path.toList == [47] else if e.kind = 5 ∨ e.kind = 6 then (e.path.toList == [47]) || named e.path else named e.path) := ⟨rfl⟩
  generalize pathQ e = R at *
  generalize named e.path = np at *
  obtain ⟨kind, path, dest, num, who⟩ := e
  dsimp only at *
  clear hf
  go_enter Tryd.func43, Tryd.ntmps43
  go_wp2_with (go_at_call 52; refine (HN.out _).mono ?_; rintro r w1 ⟨rfl, hb1⟩)
  all_goals
    go_ret
    refine ⟨by rw [HR.out]; (try simp only [beq_iff_eq, beq_eq_false_iff_ne, ne_eq] at *); simp [*], ?_⟩
    first
      | exact (Below.refl _ _).alloc (Nat.le_refl _) _
      | exact ((Below.refl _ _).alloc (Nat.le_refl _) _).trans (hb1.mono (by simp))
set_option maxRecDepth 100000 in
set_option maxHeartbeats 1000000 in
theorem implDestQ (e : EM) (w : World) (hf : EFit e) : Calls Tryd.prog 44 #[ev e] w fun r w' => r = .returned (.bool (destQ e)) ∧ Below w.heap.size w w' := by
  have HN := Shut.mk (fun W => implHasName e.dest W hf.2)
  have HR : Shut (destQ e = if e.kind = 3 then named e.dest else e.dest.toList == []) := ⟨rfl⟩
  generalize destQ e = R at *
  generalize named e.dest = np at *
  obtain ⟨kind, path, dest, num, who⟩ := e
  dsimp only at *
  clear hf
  go_enter Tryd.func44, Tryd.ntmps44
  go_wp2_with (go_at_call 52; refine (HN.out _).mono ?_; rintro r w1 ⟨rfl, hb1⟩)
  all_goals
    go_ret
    refine ⟨by rw [HR.out]; (try simp only [beq_iff_eq, beq_eq_false_iff_ne, ne_eq] at *); simp [*], ?_⟩
    first
      | exact (Below.refl _ _).alloc (Nat.le_refl _) _
      | exact ((Below.refl _ _).alloc (Nat.le_refl _) _).trans (hb1.mono (by simp))
set_option maxRecDepth 100000 in
set_option maxHeartbeats 1000000 in
theorem implNumQ (e : EM) (w : World) : Calls Tryd.prog 45 #[ev e] w fun r w' => r = .returned (.bool (numQ e)) ∧ Below w.heap.size w w' := by
  have HR : Shut (numQ e = if e.kind = 5 then inI e.num 1 3 else if e.kind = 6 then (decide (0 ≤ e.num) && decide (e.num ≤ 1000)) else if e.kind = 7 then (decide (1 ≤ e.num) && decide (e.num ≤ 200)) else e.num == 0) := ⟨rfl⟩
  generalize numQ e = R at *
  obtain ⟨kind, path, dest, num, who⟩ := e
  dsimp only at *
  go_enter Tryd.func45, Tryd.ntmps45
  go_wp2_with (go_at_call 53; refine (implSchemaOk _ _).mono ?_; rintro r w1 ⟨rfl, rfl⟩)
  all_goals
    go_ret
    refine ⟨by rw [HR.out]; (try simp only [beq_iff_eq, beq_eq_false_iff_ne, ne_eq] at *); first | (simp [*]; done) | (simp [*]; omega), ?_⟩
    exact (Below.refl _ _).alloc (Nat.le_refl _) _
set_option maxRecDepth 100000 in
set_option maxHeartbeats 1000000 in
theorem implWhoQ (e : EM) (w : World) : Calls Tryd.prog 46 #[ev e] w fun r w' => r = .returned (.bool (whoQ e)) ∧ Below w.heap.size w w' := by
  have HR : Shut (whoQ e = if e.kind = 2 ∨ e.kind = 9 then (decide (1 ≤ e.who) && decide (e.who ≤ 9)) else e.who == 0) := ⟨rfl⟩
  generalize whoQ e = R at *
  obtain ⟨kind, path, dest, num, who⟩ := e
  dsimp only at *
  go_enter Tryd.func46, Tryd.ntmps46
  go_wp2_with fail
  all_goals
    go_ret
    refine ⟨by rw [HR.out]; (try simp only [beq_iff_eq, beq_eq_false_iff_ne, ne_eq] at *); first | (simp [*]; done) | (simp [*]; omega), ?_⟩
    exact (Below.refl _ _).alloc (Nat.le_refl _) _
end Go.Proofs.YtoglebfiobofoaaDoor
/- EdQ: The program's own EditOk. -/
namespace Go.Proofs.YtoglebfiobofoaaDoor
set_option maxRecDepth 100000
open Go.RowKit BigFrame
attribute [local go_sem ↓] Go.wp_at_zero Go.wp_at_succ

theorem ec_new (w : World) (e : EM) (T : TypeId) : EC w w.heap.size e (w.alloc (.cells #[.int .i64 e.kind, .string e.path, .string e.dest, .int .i64 e.num, .int .i64 e.who] T)) := by
  have h := wcells_new w #[.int .i64 e.kind, .string e.path, .string e.dest, .int .i64 e.num, .int .i64 e.who] T
  exact ⟨(h.2 0 _ rfl).1, (h.2 1 _ rfl).1, (h.2 2 _ rfl).1, (h.2 3 _ rfl).1, (h.2 4 _ rfl).1, ⟨(Below.refl _ _).alloc (Nat.le_refl _) _⟩⟩
set_option maxRecDepth 100000 in
set_option maxHeartbeats 1000000 in
theorem implEditOk (e : EM) (w : World) (hf : EFit e) : Calls Tryd.prog 32 #[ev e] w fun r w' => r = .returned (.bool (editOk e)) ∧ Below w.heap.size w w' := by
  have H1 := Shut.mk (fun W => implPathQ e W hf)
  have H2 := Shut.mk (fun W => implDestQ e W hf)
  have H3 := Shut.mk (fun W => implNumQ e W)
  have H4 := Shut.mk (fun W => implWhoQ e W)
  have HR := Shut.mk (edit_is e)
  have HN := Shut.mk (ec_new w e 28)
  generalize editOk e = R at *
  generalize pathQ e = q1 at *
  generalize destQ e = q2 at *
  generalize numQ e = q3 at *
  generalize whoQ e = q4 at *
  unfold inI at HR
  obtain ⟨kind, path, dest, num, who⟩ := e
  dsimp only at *
  clear hf
  go_enter Tryd.func32, Tryd.ntmps32
  go_wp2_with (first
    | (go_at_call 43; refine (H1.out _).mono ?_; rintro r w1 ⟨rfl, hb1⟩; obtain ⟨c0, c1, c2, c3, c4, hB⟩ := HN.out.below hb1; clear hb1; dsimp only at c0 c1 c2 c3 c4)
    | (go_at_call 44; refine (H2.out _).mono ?_; rintro r w1 ⟨rfl, hb1⟩; obtain ⟨c0, c1, c2, c3, c4, hB⟩ := EC.below (e := ⟨kind, path, dest, num, who⟩) ⟨c0, c1, c2, c3, c4, hB⟩ hb1; clear hb1; dsimp only at c0 c1 c2 c3 c4)
    | (go_at_call 45; refine (H3.out _).mono ?_; rintro r w1 ⟨rfl, hb1⟩; obtain ⟨c0, c1, c2, c3, c4, hB⟩ := EC.below (e := ⟨kind, path, dest, num, who⟩) ⟨c0, c1, c2, c3, c4, hB⟩ hb1; clear hb1; dsimp only at c0 c1 c2 c3 c4)
    | (go_at_call 46; refine (H4.out _).mono ?_; rintro r w1 ⟨rfl, hb1⟩; obtain ⟨c0, c1, c2, c3, c4, hB⟩ := EC.below (e := ⟨kind, path, dest, num, who⟩) ⟨c0, c1, c2, c3, c4, hB⟩ hb1; clear hb1; dsimp only at c0 c1 c2 c3 c4))
  all_goals
    go_ret
    refine ⟨by rw [HR.out]; first | (simp [*]; done) | (simp [*]; omega), ?_⟩
    first
      | exact hB.out
      | exact (Below.refl _ _).alloc (Nat.le_refl _) _
end Go.Proofs.YtoglebfiobofoaaDoor
/- ShortText: The walks of the two ShortText. -/
namespace Go.Proofs.YtoglebfiobofoaaDoor
set_option maxRecDepth 100000
open Go.RowKit

/-- What ShortText writes. -/
def shortB (s : ByteArray) : ByteArray := ⟨(W.vt s.size).toArray⟩ ++ s

theorem implShortText_no (s : ByteArray) (w : World) (h : 20000 < s.size) :
    Calls Tryd.prog 33 #[.string s] w fun e w' => e = .returned (.tuple #[.string ⟨#[]⟩, .bool false]) ∧ Below w.heap.size w w' := by
  go_enter Tryd.func33, Tryd.ntmps33
  go_wp2_with fail
  go_ret2
  exact ⟨rfl, Below.refl _ _⟩
theorem implShortText_yes (s : ByteArray) (w : World) (h : s.size ≤ 20000) :
    Calls Tryd.prog 33 #[.string s] w fun e w' => e = .returned (.tuple #[.string (shortB s), .bool true]) ∧ Below w.heap.size w w' := by
  have hl := W.vt_len s.size
  go_enter Tryd.func33, Tryd.ntmps33
  go_wp2_with fail
  refine (implVarText_yes s.size _ (by omega)).mono ?_
  rintro e w1 ⟨rfl, hb⟩
  go_wp2_with fail
  go_ret2
  exact ⟨rfl, hb⟩
end Go.Proofs.YtoglebfiobofoaaDoor
/- PathS: Plain: paths are short. -/
namespace Go.Proofs.YtoglebfiobofoaaDoor
set_option maxRecDepth 100000

theorem flat_size (L : List (List UInt8)) (h : ∀ l ∈ L, nameL l = true) : ((L.map (47 :: ·)).flatten).length ≤ 9 * L.length := by
  induction L with
  | nil => simp
  | cons x L ih =>
    have h1 := (nameL_pos (h x (by simp))).2
    have h2 := ih fun l hl => h l (by simp [hl])
    simp only [List.map_cons, List.flatten_cons, List.length_append, List.length_cons]
    omega
theorem split_size {p : List UInt8} (h : (splitP p).2 = true) : p.length ≤ 36 := by
  have e := join_split h
  obtain ⟨h1, h2⟩ := split_names (p := p)
  rw [← e]
  unfold joinP
  split
  · simp
  · have := flat_size _ h1
    omega
theorem parent_small (p : ByteArray) : (parentB p).1.size ≤ 36 ∧ (parentB p).2.1.size ≤ 8 := by
  unfold parentB
  split
  · rename_i hc
    obtain ⟨h1, h2⟩ := split_names (p := lb p)
    have hl : ∀ l ∈ (splitP (lb p)).1.dropLast, nameL l = true := fun l hl => h1 l (List.dropLast_subset _ hl)
    have e : (splitB p).1 = (splitP (lb p)).1.map ba := rfl
    dsimp only
    refine ⟨?_, ?_⟩
    · have e2 : ((splitB p).1.dropLast.map lb) = (splitP (lb p)).1.dropLast := by
        rw [e, List.dropLast_eq_take, List.dropLast_eq_take, List.length_map, ← List.map_take, map_lb_ba]
      unfold joinB
      rw [e2]
      show (joinP _).toArray.size ≤ 36
      rw [List.size_toArray]
      unfold joinP
      split
      · simp
      · have h3 := flat_size _ hl
        rw [List.length_dropLast] at h3
        omega
    · have hne := hc.2
      rcases List.eq_nil_or_concat (splitB p).1 with h0 | ⟨I, x, h0⟩
      · exact absurd h0 hne
      · rw [h0]
        have hx : x ∈ (splitB p).1 := by rw [h0]; simp
        have hn := (splitB_names p).1 x hx
        have := (nameL_pos (l := lb x) hn).2
        have e3 : (I ++ [x]).getLastD ⟨#[]⟩ = x := by simp [List.getLastD_eq_getLast?]
        rw [List.concat_eq_append, e3]
        exact this
  · exact ⟨by decide, by decide⟩
end Go.Proofs.YtoglebfiobofoaaDoor
/- EdR: The program's own EditText. -/
namespace Go.Proofs.YtoglebfiobofoaaDoor
set_option maxRecDepth 100000
open Go.RowKit BigFrame
attribute [local go_sem ↓] Go.wp_at_zero Go.wp_at_succ

theorem named_size {p : ByteArray} (h : named p = true) : p.size ≤ 36 := by
  unfold named parentB at h
  split at h
  · rename_i hc
    exact split_size (p := lb p) hc.1
  · cases h
theorem edit_small {e : EM} (h : editOk e = true) : e.path.size ≤ 36 ∧ e.dest.size ≤ 36 := by
  rw [edit_is] at h
  simp only [Bool.and_eq_true] at h
  obtain ⟨⟨⟨⟨-, h1⟩, h2⟩, -⟩, -⟩ := h
  have one : ∀ p : ByteArray, (p.toList == [47]) = true → p.size ≤ 36 := fun p hp => by
    rw [Go.ByteArray.toList_eq, beq_iff_eq] at hp
    have : p.data.size = 1 := by rw [← Array.length_toList, hp]; rfl
    show p.data.size ≤ _
    omega
  have nil : ∀ p : ByteArray, (p.toList == []) = true → p.size ≤ 36 := fun p hp => by
    rw [Go.ByteArray.toList_eq, beq_iff_eq] at hp
    have : p.data.size = 0 := by rw [← Array.length_toList, hp]; rfl
    show p.data.size ≤ _
    omega
  refine ⟨?_, ?_⟩
  · unfold pathQ at h1
    split at h1
    · exact one _ h1
    · split at h1
      · rw [Bool.or_eq_true] at h1
        exact h1.elim (one _) named_size
      · exact named_size h1
  · unfold destQ at h2
    split at h2
    · exact named_size h2
    · exact nil _ h2
theorem editT_short (e : EM) : editT e = ⟨#[UInt8.ofNat e.kind.toNat, UInt8.ofNat e.who.toNat]⟩ ++ shortB e.path ++ shortB e.dest ++ (⟨(W.vt e.num.toNat).toArray⟩ : ByteArray) := by
  unfold editT shortB vb
  simp only [ByteArray.append_assoc]
set_option maxRecDepth 100000 in
set_option maxHeartbeats 1000000 in
theorem implEditText (e : EM) (w : World) (hf : EFit e) : Calls Tryd.prog 19 #[ev e] w fun r w' => r = .returned (.tuple #[.string (if editOk e then editT e else ⟨#[]⟩), .bool (editOk e)]) ∧ Below w.heap.size w w' := by
  have HOK := Shut.mk (fun W => implEditOk e W hf)
  have HN := Shut.mk (ec_new w e 28)
  cases hok : editOk e with
  | false =>
    rw [hok] at HOK
    clear hok
    obtain ⟨kind, path, dest, num, who⟩ := e
    go_enter Tryd.func19, Tryd.ntmps19
    go_wp2_with (go_at_call 32; refine (HOK.out _).mono ?_; rintro e w1 ⟨rfl, hb1⟩)
    go_ret2
    exact ⟨rfl, ((Below.refl _ _).alloc (Nat.le_refl _) _).trans (hb1.mono (by simp))⟩
  | true =>
    rw [hok] at HOK
    obtain ⟨n1, n2, n3, n4, n5, n6⟩ := edit_nums hok
    obtain ⟨s1, s2⟩ := edit_small hok
    have hT := editT_short e
    obtain ⟨kind, path, dest, num, who⟩ := e
    dsimp only at *
    clear hok hf
    obtain ⟨n, rfl⟩ := Int.eq_ofNat_of_zero_le n5
    have v1 := W.vt_len path.size
    have v2 := W.vt_len dest.size
    have v3 := W.vt_len n
    have HV1 := Shut.mk (fun W => implShortText_yes path W (by omega))
    have HV2 := Shut.mk (fun W => implShortText_yes dest W (by omega))
    have HV3 := Shut.mk (fun W => implVarText_yes n W (by omega))
    have t1 : (shortB path).size ≤ 2000000 := by unfold shortB; rw [ByteArray.size_append]; show (W.vt path.size).toArray.size + _ ≤ _; rw [List.size_toArray]; omega
    have t2 : (shortB dest).size ≤ 2000000 := by unfold shortB; rw [ByteArray.size_append]; show (W.vt dest.size).toArray.size + _ ≤ _; rw [List.size_toArray]; omega
    have t3 : (⟨(W.vt n).toArray⟩ : ByteArray).size ≤ 2000000 := by show (W.vt n).toArray.size ≤ _; rw [List.size_toArray]; omega
    have t0 : (⟨#[UInt8.ofNat kind.toNat, UInt8.ofNat who.toNat]⟩ : ByteArray).size ≤ 2 := by simp [ByteArray.size]
    have hk := u8_byte kind (by omega) (by omega)
    have hw := u8_byte who (by omega) (by omega)
    rw [Int.toNat_natCast] at hT
    generalize shortB path = V1 at HV1 hT t1
    generalize shortB dest = V2 at HV2 hT t2
    generalize (⟨(W.vt n).toArray⟩ : ByteArray) = V3 at HV3 hT t3
    obtain ⟨K, hK⟩ : ∃ K : ByteArray, K = ⟨#[UInt8.ofNat kind.toNat, UInt8.ofNat who.toNat]⟩ := ⟨_, rfl⟩
    rw [← hK] at hT t0
    generalize UInt8.ofNat kind.toNat = k1 at hk hK
    generalize UInt8.ofNat who.toNat = k2 at hw hK
    have HX : ∀ x : World, (convert 59 9 (.slice (some ⟨x.heap.size, 0, none⟩) 2 2)).run Tryd.prog (x.alloc (.cells #[.int .u8 (k1.toNat : Int), .int .u8 (k2.toNat : Int)] 5)) = .ok (.string K) (x.alloc (.cells #[.int .u8 (k1.toNat : Int), .int .u8 (k2.toNat : Int)] 5)) := fun x => by
      rw [hK]
      exact two_later x _ k1 k2 (Later.refl _)
    clear hK
    rw [hT]
    have q1 : ¬ (9223372036854775807 < K.size + V1.size) := by omega
    have q2 : ¬ (9223372036854775807 < K.size + V1.size + V2.size) := by omega
    have q3 : ¬ (9223372036854775807 < K.size + V1.size + V2.size + V3.size) := by omega
    clear hT v1 v2 v3 t0 t1 t2 t3 n1 n2 n3 n4 n5 n6 s1 s2
    go_enter Tryd.func19, Tryd.ntmps19
    go_wp2_with (first
      | (go_at_call 32; refine (HOK.out _).mono ?_; rintro e w1 ⟨rfl, hb1⟩; obtain ⟨c0, c1, c2, c3, c4, hB⟩ := HN.out.below hb1; clear hb1; dsimp only at c0 c1 c2 c3 c4; have tokA : True := trivial)
      | (go_at_call 33; clear tokA; refine (HV1.out _).mono ?_; rintro r w1 ⟨rfl, hb1⟩; obtain ⟨c0, c1, c2, c3, c4, hB⟩ := EC.below (e := ⟨kind, path, dest, n, who⟩) ⟨c0, c1, c2, c3, c4, hB⟩ hb1; clear hb1; dsimp only at c0 c1 c2 c3 c4)
      | (go_at_call 33; refine (HV2.out _).mono ?_; rintro r w1 ⟨rfl, hb1⟩; obtain ⟨c0, c1, c2, c3, c4, hB⟩ := EC.below (e := ⟨kind, path, dest, n, who⟩) ⟨c0, c1, c2, c3, c4, hB⟩ hb1; clear hb1; dsimp only at c0 c1 c2 c3 c4)
      | (go_at_call 34; refine (HV3.out _).mono ?_; rintro r w1 ⟨rfl, hb1⟩; obtain ⟨c0, c1, c2, c3, c4, hB⟩ := EC.below (e := ⟨kind, path, dest, n, who⟩) ⟨c0, c1, c2, c3, c4, hB⟩ hb1; clear hb1; dsimp only at c0 c1 c2 c3 c4))
    go_ret2
    exact ⟨rfl, hB.out.alloc hB.out.size _⟩
end Go.Proofs.YtoglebfiobofoaaDoor
/- EdS: What the program reads of a record's text, plain: it is what the model reads. -/
namespace Go.Proofs.YtoglebfiobofoaaDoor
set_option maxRecDepth 100000
open Go.RowKit
open Go.PlainAid (bt)

/-- What the program reads. -/
def progE (s : ByteArray) : Option EM :=
  if 2 ≤ s.size then
    match readShortI s 2 with
    | none => none
    | some (p, a1) => match readShortI s (a1 : Nat) with
      | none => none
      | some (t, a2) => match readVarI s (a2 : Nat) with
        | none => none
        | some (n, a3) => if (a3 = s.size ∧ editOk ⟨bt s 0, p, t, (n : Nat), bt s 1⟩ = true) then some ⟨bt s 0, p, t, (n : Nat), bt s 1⟩ else none
  else none
theorem ext_app (s : ByteArray) (a b c : Nat) (h1 : a ≤ b) (h2 : b ≤ c) : s.extract a b ++ s.extract b c = s.extract a c := by
  rw [ByteArray.extract_append_extract, Nat.min_eq_left h1, Nat.max_eq_right h2]
theorem short_bytes {s t : ByteArray} {a b : Nat} (h : readShortI s (a : Nat) = some (t, b)) : a ≤ b ∧ b ≤ s.size ∧ s.extract a b = vb t.size ++ t := by
  unfold readShortI at h
  cases hv : readVarI s (a : Nat) with
  | none => rw [hv] at h; cases h
  | some x =>
    obtain ⟨n, p⟩ := x
    have hb := readVarI_bounds hv
    rw [hv] at h
    dsimp only at h
    unfold readVarI at hv
    split at hv
    · rename_i ha
      obtain ⟨h1, h2, h3⟩ := W.readVar_vt hv
      rw [Int.toNat_natCast] at h1 h3
      split at h
      · rename_i hc
        cases h
        have hs : (s.extract p (p + n)).size = n := by rw [ByteArray.size_extract]; omega
        refine ⟨by omega, by omega, ?_⟩
        rw [hs, ← ext_app s a p (p + n) (by omega) (by omega), h3]
        rfl
      · cases h
    · cases hv
theorem var_bytes {s : ByteArray} {a n b : Nat} (h : readVarI s (a : Nat) = some (n, b)) : a ≤ b ∧ b ≤ s.size ∧ s.extract a b = vb n := by
  have hb := readVarI_bounds h
  unfold readVarI at h
  split at h
  · obtain ⟨h1, h2, h3⟩ := W.readVar_vt h
    rw [Int.toNat_natCast] at h1 h3
    exact ⟨by omega, hb.2, h3⟩
  · cases h
theorem bt_ofNat {s : ByteArray} {j : Nat} (h : j < s.size) : UInt8.ofNat (bt s j).toNat = (lb s)[j]'h := by
  rw [bt_at h]
  simp
theorem two_head {s : ByteArray} (h : 2 ≤ s.size) : s.extract 0 2 = ⟨#[UInt8.ofNat (bt s 0).toNat, UInt8.ofNat (bt s 1).toNat]⟩ := by
  rw [bt_ofNat (by omega), bt_ofNat (by omega)]
  apply ByteArray.ext
  apply Array.toList_inj.1
  show lb (s.extract 0 2) = _
  rw [ext_list]
  have hl : 2 ≤ (lb s).length := h
  have key : ∀ (L : List UInt8) (hL : 2 ≤ L.length), (L.drop 0).take (2 - 0) = [L[0], L[1]] := fun L hL => by
    match L, hL with
    | x :: y :: r, _ => rfl
  exact key (lb s) hl
theorem progE_text {s p t : ByteArray} {a1 a2 n a3 : Nat} (h : 2 ≤ s.size) (h1 : readShortI s 2 = some (p, a1)) (h2 : readShortI s (a1 : Nat) = some (t, a2)) (h3 : readVarI s (a2 : Nat) = some (n, a3)) :
    a3 ≤ s.size ∧ s.extract 0 a3 = editT ⟨bt s 0, p, t, (n : Nat), bt s 1⟩ := by
  obtain ⟨b1, c1, e1⟩ := short_bytes (a := 2) h1
  obtain ⟨b2, c2, e2⟩ := short_bytes h2
  obtain ⟨b3, c3, e3⟩ := var_bytes h3
  refine ⟨c3, ?_⟩
  rw [← ext_app s 0 a2 a3 (by omega) b3, ← ext_app s 0 a1 a2 (by omega) b2, ← ext_app s 0 2 a1 (by omega) b1, e1, e2, e3, two_head h]
  unfold editT
  simp only [ByteArray.append_assoc, Int.toNat_natCast]
theorem readE_prog (s : ByteArray) : readE s = match progE s with
    | some e => (e, true)
    | none => (zeroE, false) := by
  unfold readE progE
  by_cases h : 2 ≤ s.size
  · rw [if_pos h]
    cases h1 : readShortI s 2 with
    | none =>
      have e1 : part1 s = (⟨#[]⟩, 0, false) := by unfold part1; rw [h1]; rfl
      rw [if_neg]
      unfold isE
      rw [e1]
      simp
    | some x =>
      obtain ⟨p, a1⟩ := x
      have e1 : part1 s = (p, a1, true) := by unfold part1; rw [h1]; rfl
      dsimp only
      cases h2 : readShortI s (a1 : Nat) with
      | none =>
        have e2 : part2 s = (⟨#[]⟩, 0, false) := by unfold part2; rw [e1, h2]; rfl
        rw [if_neg]
        unfold isE
        rw [e2]
        simp
      | some x =>
        obtain ⟨t, a2⟩ := x
        have e2 : part2 s = (t, a2, true) := by unfold part2; rw [e1, h2]; rfl
        dsimp only
        cases h3 : readVarI s (a2 : Nat) with
        | none =>
          have e3 : part3 s = (0, 0, false) := by unfold part3; rw [e2, h3]; rfl
          rw [if_neg]
          unfold isE
          rw [e3]
          simp
        | some x =>
          obtain ⟨n, a3⟩ := x
          have e3 : part3 s = (n, a3, true) := by unfold part3; rw [e2, h3]; rfl
          obtain ⟨hle, ht⟩ := progE_text h h1 h2 h3
          have ew : wouldE s = ⟨bt s 0, p, t, (n : Nat), bt s 1⟩ := by unfold wouldE; rw [e1, e2, e3]
          unfold isE
          rw [e1, e2, e3, ew]
          dsimp only
          rw [← ht]
          have hi : (s.extract 0 a3 = s) ↔ a3 = s.size := by
            constructor
            · intro e
              have := congrArg ByteArray.size e
              rw [ByteArray.size_extract] at this
              omega
            · rintro rfl
              exact ByteArray.extract_zero_size
          by_cases ha : a3 = s.size
          · simp [ha, h]
            split <;> rfl
          · simp [hi, ha]
  · rw [if_neg h, if_neg]
    unfold isE
    simp [h]
end Go.Proofs.YtoglebfiobofoaaDoor
