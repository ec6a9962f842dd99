/- Texts of ours, laid one behind the other: PaL, HasN, GrwB, LtA, LtB, MuL, ClS, LtC, OwC, LtD, LeL, LtT. -/
import Derived.Test.YtcnjjbgilpgceaaPl5
import Derived.BigQuiet
import Derived.OrdersHeld
import Derived.Handy
import Derived.Test.YtcnjjbgilpgceaaRows
import Derived.Conc.MuLone
import Derived.KernelRfl
import Derived.Test.YtcnjjbgilpgceaaShelf
import Derived.Laws.MakeOwn
import Derived.Deep.AppendLies
import Derived.Recover
import Derived.Laws.IdiomCopy
/- PaL: The program's own JoinPath and ParentPath; all four together. -/
namespace Go.Proofs.Ytcnjjbgilpgceaa
set_option maxRecDepth 100000
open Go.RowKit
open Go.PlainAid (bt)
attribute [local go_sem ↓] Go.wp_at_zero Go.wp_at_succ

theorem lib_join (L : List (List UInt8)) : (47 :: Lib.join L [47]) = joinP L := by
  cases L with
  | nil => rfl
  | cons x L =>
    unfold joinP
    rw [if_neg (by simp)]
    induction L generalizing x with
    | nil => simp [Lib.join]
    | cons y L ih =>
      have := ih y
      simp only [List.map_cons, List.flatten_cons, List.cons_append, List.cons.injEq, true_and] at this ⊢
      rw [← this]
      simp [Lib.join]
theorem joinP_len (L : List ByteArray) (h : TFit L) : (Lib.join (L.map lb) [47]).length ≤ 2097152 := by
  have e := congrArg List.length (lib_join (L.map lb))
  have := join_size h
  have hb : (joinB L).size = (joinP (L.map lb)).length := by
    unfold joinB
    show (joinP (L.map lb)).toArray.size = _
    simp
  rw [List.length_cons] at e
  omega
set_option maxRecDepth 100000 in
set_option maxHeartbeats 1000000 in
theorem implJoinPath (w : World) (u : Value) (L : List ByteArray) (lo hi : Nat) (hu : CSee w u L lo hi) (hf : TFit L) : Calls Try.prog 90 #[u] w fun e w' => e = .returned (.string (joinB L)) ∧ Below w.heap.size w w' := by
  obtain ⟨a, cap, rfl, hc, hr⟩ := hu
  have hjl := joinP_len L hf
  have HJ : Shut (joinB L = (⟨#[47]⟩ : ByteArray) ++ ⟨(Lib.join (L.map lb) [47]).toArray⟩) := ⟨by
    unfold joinB
    rw [← lib_join]
    apply ByteArray.ext
    simp⟩
  by_cases h0 : L = []
  · subst h0
    have HN := Shut.mk (fun W => Try.strings_Join_none a cap ⟨#[47]⟩ W)
    clear hr hf hjl
    go_enter Try.func90, Try.ntmps90
    go_wp2_with fail
    refine (HN.out _).mono ?_
    rintro e w1 ⟨rfl, hw⟩
    subst hw
    go_wp2_with fail
    go_ret
    exact ⟨rfl, Below.refl _ _⟩
  · obtain ⟨b, off, rfl, hb, hcs⟩ := units_at hr (List.length_pos_iff.2 h0)
    have hn : L.length ≤ 1048576 := by unfold TFit at hf; omega
    have HN := Shut.mk (Try.strings_Join b off cap L ⟨#[47]⟩ w (fun j x hx => by
      obtain ⟨hj, e⟩ := List.getElem?_eq_some_iff.1 hx
      have := hcs j hj
      rw [this]
      simp [List.getD, hj, e]) hb (by omega) hc (by
        show (Lib.join (L.map lb) [47]).length ≤ _
        omega))
    have hsz : ((⟨(Lib.join (L.map lb) [47]).toArray⟩ : ByteArray)).size ≤ 2097152 := by
      show (Lib.join (L.map lb) [47]).toArray.size ≤ _
      simpa using hjl
    have HN' : Shut (Calls Try.prog 102 #[.slice (some ⟨b, off, none⟩) L.length cap, .string ⟨#[47]⟩] w fun e w' => e = .returned (.string ⟨(Lib.join (L.map lb) [47]).toArray⟩) ∧ Below w.heap.size w w') := HN
    generalize (⟨(Lib.join (L.map lb) [47]).toArray⟩ : ByteArray) = J at *
    clear hr hf hjl hcs HN h0
    go_enter Try.func90, Try.ntmps90
    go_wp2_with fail
    refine HN'.out.mono ?_
    rintro e w1 ⟨rfl, hb1⟩
    go_wp2_with fail
    go_ret
    exact ⟨by rw [HJ.out]; rfl, hb1⟩
theorem OwnAt.form {w : World} {base n : Nat} {v : Value} {L : List ByteArray} (h : OwnAt w base v n L) : ∃ a cap, v = .slice a n cap := by
  obtain ⟨_, ⟨e, h0⟩ | ⟨g, off, cap, e, _⟩⟩ := h
  · exact ⟨none, 0, by rw [e, h0]⟩
  · exact ⟨_, cap, e⟩
theorem OwnAt.some' {w : World} {base n : Nat} {v : Value} {L : List ByteArray} (h : OwnAt w base v n L) (hp : 0 < n) : ∃ g off cap, v = .slice (some ⟨g, off, none⟩) n cap ∧ n ≤ cap ∧ g < w.heap.size ∧ ∀ j, j < L.length → w.cell? ⟨g, off + j, none⟩ = some (.string (L.getD j ⟨#[]⟩)) := by
  obtain ⟨_, ⟨_, h0⟩ | ⟨g, off, cap, e, _, hn, _, hc⟩⟩ := h
  · omega
  · exact ⟨g, off, cap, e, hn, hc.1, fun j hj => (hc.2 j hj).1⟩
theorem CSee.below {w w' : World} {v : Value} {L : List ByteArray} {lo hi : Nat} (h : CSee w v L lo hi) (hb : Below w.heap.size w w') : CSee w' v L lo hi := by
  obtain ⟨a, cap, e, hc, hr⟩ := h
  obtain ⟨a', cap', e', hr'⟩ := (show SSee w v L lo hi from ⟨a, cap, e, hr⟩).below hb
  rw [e] at e'
  cases e'
  exact ⟨a, cap, e, hc, hr'⟩
set_option maxRecDepth 100000 in
set_option maxHeartbeats 2000000 in
theorem implParentPath (p : ByteArray) (w : World) (hs : p.size ≤ 1048576) : Calls Try.prog 76 #[.string p] w fun e w' => ParPost p w e w' := by
  have HS := Shut.mk (fun W => implSplitPath p W hs)
  have hnm := splitB_names p
  unfold QPost at HS
  unfold ParPost
  obtain ⟨L, ok, hre⟩ : ∃ L ok, splitB p = (L, ok) := ⟨_, _, rfl⟩
  rw [hre] at HS hnm
  have HN := Shut.mk hnm
  clear hnm
  cases ok with
  | false =>
    rw [parent_no hre (.inl rfl)]
    clear hre
    go_enter Try.func76, Try.ntmps76
    go_wp2_with fail
    refine (HS.out _).mono ?_
    rintro e w1 ⟨v, rfl, ho, hb⟩
    obtain ⟨a, cap, rfl⟩ := ho.form
    have HB := Shut.mk hb
    clear ho hb
    go_wp2_with fail
    go_ret3
    exact ⟨rfl, HB.out⟩
  | true =>
    rcases List.eq_nil_or_concat L with rfl | ⟨I, x, rfl⟩
    · rw [parent_no hre (.inr rfl)]
      clear hre
      go_enter Try.func76, Try.ntmps76
      go_wp2_with fail
      refine (HS.out _).mono ?_
      rintro e w1 ⟨v, rfl, ho, hb⟩
      obtain ⟨a, cap, rfl⟩ := ho.form
      have HB := Shut.mk hb
      clear ho hb
      go_wp2_with fail
      go_ret3
      exact ⟨rfl, HB.out⟩
    · rw [List.concat_eq_append] at *
      rw [parent_yes hre]
      obtain ⟨J, hJ⟩ : ∃ J, J = joinB I := ⟨_, rfl⟩
      have HJE := Shut.mk hJ
      rw [← hJ]
      clear hJ
      have h4 := HN.out.2
      have HF : Shut (TFit I) := ⟨names_fit (fun s h => HN.out.1 s (List.mem_append.2 (.inl h))) (by rw [List.length_append] at h4; omega)⟩
      obtain ⟨m, hm⟩ : ∃ m, m = I.length := ⟨_, rfl⟩
      have HM := Shut.mk hm
      have hm4 : m ≤ 4 := by rw [List.length_append] at h4; omega
      rw [show (I ++ [x], true).1.length = m + 1 by simp [hm]] at HS
      clear hre h4 hm
      go_enter Try.func76, Try.ntmps76
      go_wp2_with fail
      refine (HS.out _).mono ?_
      rintro e w1 ⟨v, rfl, ho, hb⟩
      obtain ⟨g, off, cap, rfl, hcap, hg, hcs⟩ := ho.some' (by omega)
      have d0 : w1.cell? ⟨g, off + m, none⟩ = some (.string x) := by
        rw [hcs m (by rw [List.length_append, HM.out]; simp)]
        simp [List.getD, HM.out]
      have hsee : CSee w1 (.slice (some ⟨g, off, none⟩) m cap) I 0 w1.heap.size := ⟨_, cap, by rw [HM.out], by rw [← HM.out]; omega, fun _ => ⟨g, off, rfl, Nat.zero_le _, hg, hg, fun i u hu => by
        have hi : i < I.length := by
          have := (List.getElem?_eq_some_iff.1 hu).1
          rwa [tv_len] at this
        rw [tv_get I i hi] at hu
        cases hu
        rw [hcs i (by rw [List.length_append]; omega)]
        simp [List.getD, List.getElem?_append_left hi]⟩⟩
      have HJ := Shut.mk (fun W (hW : Below w1.heap.size w1 W) => implJoinPath W _ _ _ _ (hsee.below hW) HF.out)
      have HB := Shut.mk hb
      have hm0 : (((m + 1 : Nat) : Int) == 0) = false := by rw [beq_eq_false_iff_ne]; omega
      obtain ⟨n, hn⟩ : ∃ n, n = m + 1 := ⟨_, rfl⟩
      rw [← hn] at hcap hm0 ⊢
      have hnm : (n : Int) - 1 = (m : Int) := by omega
      have hmn : (m : Int) < (n : Int) := by omega
      have hmc : (m : Int) ≤ (cap : Int) := by omega
      have hm9 : (0 : Int) ≤ (m : Int) := by omega
      have hwr : IntKind.i64.wrap ((n : Int) - 1) = (m : Int) := by rw [hnm]; exact IntWalk.i64_in _ ⟨by omega, by omega⟩
      rw [← HJE.out] at HJ
      clear ho hb hcs hsee hn HN HM hnm
      go_wp2_with fail
      go_region_held3 (fun w' => w'.cell? ⟨g, off + m, none⟩ = some (.string x))
        (first | assumption | (exact (hb9.cell (p := ⟨g, off + m, none⟩) hg).trans (by assumption)) | go_keep)
        (first | (go_at_call 90; refine (HJ.out _ (by first | exact Below.refl _ _ | exact Below.drew (Below.refl _ _))).mono ?_; rintro e w9 ⟨rfl, hb9⟩))
      all_goals
        go_wp2_with fail
        go_ret3
        exact ⟨rfl, by first | exact HB.out.trans (hb9.mono HB.out.size) | exact HB.out.trans (((Below.drew (Below.refl w1.heap.size w1)).trans hb9).mono HB.out.size)⟩
theorem pathsAll : PathsAll := ⟨implNameOk, implSplitPath, implJoinPath, implParentPath⟩
end Go.Proofs.Ytcnjjbgilpgceaa
/- HasN: The program's own: a path that has a name. -/
namespace Go.Proofs.Ytcnjjbgilpgceaa
set_option maxRecDepth 100000
open Go.RowKit BigFrame
attribute [local go_sem ↓] Go.wp_at_zero Go.wp_at_succ

theorem implHasName (p : ByteArray) (w : World) (hs : p.size ≤ 1048576) : Calls Try.prog 65 #[.string p] w fun e w' => e = .returned (.bool (named p)) ∧ Below w.heap.size w w' := by
  have HC := Shut.mk (fun W => implParentPath p W hs)
  unfold ParPost at HC
  have e0 : named p = (parentB p).2.2 := rfl
  rw [e0]
  generalize (parentB p).2.2 = a at *
  generalize (parentB p).2.1 = b at *
  generalize (parentB p).1 = c at *
  clear hs e0
  go_enter Try.func65, Try.ntmps65
  go_wp2_with fail
  refine (HC.out _).mono ?_
  rintro e w1 ⟨rfl, hb⟩
  go_wp2_with fail
  go_ret
  exact ⟨rfl, hb⟩
end Go.Proofs.Ytcnjjbgilpgceaa
/- GrwB: A region that draws its order, some of whose operations make memory: what answers one value in every later world is taken first, calls that only make memory too. The way of the proof is that of the library's Derived.OrdersHeld, which is imported; the class of worlds is ours. -/
namespace Go.Proofs.Ytcnjjbgilpgceaa
set_option maxRecDepth 100000
open Go.RowKit

/-- A later world: more memory, what was there untouched. -/
def Later (w w' : World) : Prop := Below w.heap.size w w'
theorem Later.refl (w : World) : Later w w := Below.refl _ _
theorem Later.trans {a b c : World} (h : Later a b) (g : Later b c) : Later a c := Below.trans h (Below.mono g (Below.size h))
section
variable {P : Program} {ops : Array Oper} {Q : Exit → Act → World → Prop} {md : Region.Mode}
/-- Whatever order is picked from here on, in whatever later world. -/
def wpL (P : Program) (md : Region.Mode) (ops : Array Oper) (Q : Exit → Act → World → Prop) : Nat → Array Bool → Act → World → Prop
  | 0, l, a, w => Region.ready md ops l = [] ∧ ∀ x, Later w x → Q .normal a x
  | n + 1, l, a, w => ∀ x, Later w x → (Region.ready md ops l = [] → Q .normal a x) ∧
      ∀ i ∈ Region.ready md ops l, wpOp P ops Q i (fun a' y => Later x y ∧ wpL P md ops Q n (l.setIfInBounds i true) a' y) a x
theorem wpL_later : ∀ (n : Nat) (l : Array Bool) (a : Act) (w y : World), Later w y → wpL P md ops Q n l a w → wpL P md ops Q n l a y
  | 0, _, _, _, _, hy, h => ⟨h.1, fun x hx => h.2 x (hy.trans hx)⟩
  | _ + 1, _, _, _, _, hy, h => fun x hx => h x (hy.trans hx)
theorem wpAny_of_L : ∀ (n : Nat) (l : Array Bool) (a : Act) (w : World), wpL P md ops Q n l a w → wpAny P md ops Q n l a w
  | 0, _, _, w, h => ⟨h.1, h.2 w (Later.refl w)⟩
  | n + 1, _, _, w, h => ⟨(h w (Later.refl w)).1, fun i hi => wpOp_mono (fun a' y hh => wpAny_of_L n _ a' y hh.2) ((h w (Later.refl w)).2 i hi)⟩
/-- One value, in every later world; a call may make memory. -/
def YL (P : Program) (ops : Array Oper) (o : Oper) (v : Value) (a : Act) (w : World) : Prop :=
  (Region.wanted o (yielded ops a.tmps) = true ∧ ∀ x, Later w x → o.quietAt P a (Later x) x v) ∨ (Region.wanted o (yielded ops a.tmps) = false ∧ v = undef)
theorem YL.later {o : Oper} {v : Value} {a : Act} {w y : World} (h : YL P ops o v a w) (hy : Later w y) : YL P ops o v a y :=
  h.imp (fun q => ⟨q.1, fun x hx => q.2 x (hy.trans hx)⟩) id
theorem YL.same {o : Oper} {v : Value} {a b : Act} {w : World} (h : YL P ops o v a w) (he : execOp b.eval o = execOp a.eval o) (hw : Region.wanted o (yielded ops b.tmps) = Region.wanted o (yielded ops a.tmps)) : YL P ops o v b w := by
  unfold YL Oper.quietAt at *
  rw [he, hw]
  exact h
theorem YL.op {i : Nat} {o : Oper} {v : Value} {a : Act} {w x : World} {K : Act → World → Prop} (hi : ops[i]? = some o) (h : YL P ops o v a w) (hx : Later w x) (hk : ∀ y, Later x y → K (a.put o.dst v) y) : wpOp P ops Q i K a x := by
  unfold wpOp
  rw [hi]
  dsimp only
  rcases h with ⟨hw, hq⟩ | ⟨hw, hv⟩
  · rw [if_pos hw]
    refine Or.inl ?_
    have q := hq x hx
    unfold Oper.quietAt at q
    unfold Oper.wp
    revert q
    cases (execOp a.eval o).run P x with
    | halt _ _ => exact False.elim
    | ok r y =>
      cases r with
      | value u => rintro ⟨rfl, rfl⟩; exact hk _ (Later.refl _)
      | skip => rintro ⟨rfl, rfl⟩; exact hk _ (Later.refl _)
      | enter f args => rintro ⟨rfl, hc⟩; exact hc.mono (by rintro _ z ⟨rfl, hz⟩; exact hk _ hz)
      | _ => exact False.elim
  · rw [if_neg (by rw [hw]; exact Bool.false_ne_true), ← hv]
    exact hk _ (Later.refl _)
/-- What an operation may do to the frame: its own slot, or a call that is put off. -/
def Fr (d : Option Tmp) (a b : Act) : Prop := ∃ u, b = a.put d u ∨ ∃ f, b = { a with defers := f :: a.defers }.put d u
theorem op_frame {j : Nat} {oj : Oper} {K : Act → World → Prop} {a : Act} {x : World} (hj : ops[j]? = some oj) (h : wpOp P ops Q j K a x) : wpOp P ops Q j (fun b y => Fr oj.dst a b ∧ K b y) a x := by
  unfold wpOp at h ⊢
  rw [hj] at h ⊢
  dsimp only at h ⊢
  split
  · rename_i hw
    rw [if_pos hw] at h
    refine h.imp_left fun q => ?_
    unfold Oper.wp at q ⊢
    revert q
    cases (execOp a.eval oj).run P x with
    | halt r y => cases r <;> exact id
    | ok r y =>
      cases r with
      | value u => exact fun q => ⟨⟨u, .inl rfl⟩, q⟩
      | skip => exact fun q => ⟨⟨undef, .inl rfl⟩, q⟩
      | defer f => exact fun q => ⟨⟨undef, .inr ⟨f, rfl⟩⟩, q⟩
      | enter f args => exact fun q => Calls.mono q fun e z hz => by cases e <;> first | exact ⟨⟨_, .inl rfl⟩, hz⟩ | exact hz
      | row r args => exact fun q => Rows.mono q fun u z hz => ⟨⟨u, .inl rfl⟩, hz⟩
      | _ => exact id
  · rename_i hw
    rw [if_neg hw] at h
    exact ⟨⟨undef, .inl rfl⟩, h⟩
/-- An operation beside another that has its value already: the library's law for no world at all, and what the frame may be behind it. -/
theorem op_beside {j : Nat} {oi oj : Oper} {v : Value} {w : World} (hj : ops[j]? = some oj) (hap : oi.apart ops oj = true) (hsi : ∀ cs b, oi.op ≠ .select cs b) (hsj : ∀ cs b, oj.op ≠ .select cs b)
    (hQ : ∀ c a w, Q (.panic c) (a.put oi.dst v) w → Q (.panic c) a w) {K : Act → World → Prop} {a : Act} {x : World} (hy : YL P ops oi v a w) (h : wpOp P ops Q j K (a.put oi.dst v) x) :
    wpOp P ops Q j (fun a' y => YL P ops oi v a' w ∧ K (a'.put oi.dst v) y) a x := by
  have h3 := (Oper.apart_spec hap).2.2
  refine wpOp_mono ?_ (op_frame hj (wpOp_putIf (S := fun _ => False) hj hap hsi hsj hQ (hy.imp (fun q => ⟨q.1, fun _ hf => hf.elim⟩) id) h))
  rintro b y ⟨⟨u, rfl | ⟨f, rfl⟩⟩, -, hk⟩
  · exact ⟨hy.same (execOp_put oi hsi a oj.dst u h3) (wanted_put oi a oj.dst u h3), hk⟩
  · have q : YL P ops oi v { a with defers := f :: a.defers } w := hy.same rfl rfl
    exact ⟨q.same (execOp_put oi hsi _ oj.dst u h3) (wanted_put oi _ oj.dst u h3), hk⟩
/-- Who may come up waits for nobody who has not come up. -/
theorem ready_free {l : Array Bool} {i j : Nat} {oj : Oper} (hi : i ∈ Region.ready md ops l) (hj : j ∈ Region.ready md ops l) (ho : ops[j]? = some oj) : ∀ e ∈ oj.after, Region.binds md e = true → e.on ≠ i := by
  obtain ⟨-, o', ho', hall⟩ := mem_ready.1 hj
  obtain rfl : oj = o' := Option.some.inj (ho.symm.trans ho')
  rintro e he hb rfl
  have q := hall e he hb
  have z := (mem_ready.1 hi).1
  grind
theorem wpL_first {i : Nat} {oi : Oper} {v : Value} (hi : ops[i]? = some oi) (hsel : ∀ (j : Nat) (o : Oper) cs b, ops[j]? = some o → o.op ≠ .select cs b) (hQ : ∀ c a w, Q (.panic c) (a.put oi.dst v) w → Q (.panic c) a w) :
    ∀ (n : Nat) (l : Array Bool) (a : Act) (w : World), (∀ j oj, ops[j]? = some oj → j ≠ i → l.getD j true = false → (∀ e ∈ oj.after, Region.binds md e = true → e.on ≠ i) → oi.apart ops oj = true) →
      i ∈ Region.ready md ops l → YL P ops oi v a w → wpL P md ops Q n (l.setIfInBounds i true) (a.put oi.dst v) w → wpL P md ops Q (n + 1) l a w := by
  intro n
  induction n with
  | zero =>
    intro l a w _ hr hy H x hx
    refine ⟨fun h => (by rw [h] at hr; cases hr), fun j hj => ?_⟩
    by_cases hji : j = i
    · subst hji
      exact hy.op hi hx fun y hxy => ⟨hxy, wpL_later 0 _ _ _ _ (hx.trans hxy) H⟩
    · have q := ready_mono hj hji
      rw [H.1] at q
      cases q
  | succ n ih =>
    intro l a w hfree hr hy H x hx
    refine ⟨fun h => (by rw [h] at hr; cases hr), fun j hj => ?_⟩
    by_cases hji : j = i
    · subst hji
      exact hy.op hi hx fun y hxy => ⟨hxy, wpL_later (n + 1) _ _ _ _ (hx.trans hxy) H⟩
    · obtain ⟨hun, oj, hoj, -⟩ := mem_ready.1 hj
      have q := op_beside hoj (hfree j oj hoj hji hun (ready_free hr hj hoj)) (fun cs b => hsel i oi cs b hi) (fun cs b => hsel j oj cs b hoj) hQ hy ((H x hx).2 j (ready_mono hj hji))
      refine wpOp_mono (fun b y hb => ⟨hb.2.1, ih (l.setIfInBounds j true) b y (fun k ok hk hki hku hno => hfree k ok hk hki ?_ hno) (ready_mono hr (Ne.symm hji)) (hb.1.later (hx.trans hb.2.1)) ?_⟩) q
      · by_cases hjk : j = k
        · subst hjk; exact hun
        · rw [getD_set_ne true hjk] at hku; exact hku
      · rw [Array.setIfInBounds_comm _ _ hji]
        exact hb.2.2
theorem at_drop {L r : List Oper} {i : Nat} {o : Oper} (h : L.drop i = o :: r) : L.toArray[i]? = some o := by
  have q : (L.drop i)[0]? = some o := by rw [h]; rfl
  simpa using q
/-- Take number i: a value. -/
theorem wpL_val {L r : List Oper} {i : Nat} {oi : Oper} {v : Value} {n : Nat} {l : Array Bool} {a : Act} {w : World} (hi : L.drop i = oi :: r) (hs : Region.noSelect L.toArray = true) (hf : Region.free md L.toArray l i = true) (hr : (Region.ready md L.toArray l).contains i = true)
    (hQ : ∀ c a w, Q (.panic c) (a.put oi.dst v) w → Q (.panic c) a w) (hw : Region.wanted oi (yielded L.toArray a.tmps) = true) (hy : ∀ x, Later w x → (execOp a.eval oi).run P x = .ok (.value v) x)
    (h : wpL P md L.toArray Q n (l.setIfInBounds i true) (a.put oi.dst v) w) : wpL P md L.toArray Q (n + 1) l a w :=
  wpL_first (at_drop hi) (Region.noSelect_spec hs) hQ n l a w (Region.free_spec (at_drop hi) hf) (by simpa using hr) (Or.inl ⟨hw, fun x hx => by unfold Oper.quietAt; rw [hy x hx]; exact ⟨rfl, rfl⟩⟩) h
/-- Take number i: a call. -/
theorem wpL_call {L r : List Oper} {i : Nat} {oi : Oper} {v : Value} {f : FuncId} {args : Array Value} {n : Nat} {l : Array Bool} {a : Act} {w : World} (hi : L.drop i = oi :: r) (hs : Region.noSelect L.toArray = true) (hf : Region.free md L.toArray l i = true) (hr : (Region.ready md L.toArray l).contains i = true)
    (hQ : ∀ c a w, Q (.panic c) (a.put oi.dst v) w → Q (.panic c) a w) (hw : Region.wanted oi (yielded L.toArray a.tmps) = true) (hy : ∀ x, Later w x → (execOp a.eval oi).run P x = .ok (.enter f args) x)
    (hc : ∀ x, Later w x → Calls P f args x fun e y => e = .returned v ∧ Below x.heap.size x y)
    (h : wpL P md L.toArray Q n (l.setIfInBounds i true) (a.put oi.dst v) w) : wpL P md L.toArray Q (n + 1) l a w :=
  wpL_first (at_drop hi) (Region.noSelect_spec hs) hQ n l a w (Region.free_spec (at_drop hi) hf) (by simpa using hr) (Or.inl ⟨hw, fun x hx => by unfold Oper.quietAt; rw [hy x hx]; exact ⟨rfl, hc x hx⟩⟩) h
/-- One alone may come up: it is carried out in a later world. -/
theorem wpL_one {L r : List Oper} {i : Nat} {oi : Oper} {n : Nat} {l : Array Bool} {a : Act} {w : World} (hr : Region.ready md L.toArray l = [i]) (hi : L.drop i = oi :: r) (hw : Region.wanted oi (yielded L.toArray a.tmps) = true)
    (h : ∀ x, Later w x → ∃ (v : Value) (y : World), (execOp a.eval oi).run P x = .ok (.value v) y ∧ Later x y ∧ wpL P md L.toArray Q n (l.setIfInBounds i true) (a.put oi.dst v) y) : wpL P md L.toArray Q (n + 1) l a w := by
  intro x hx
  rw [hr]
  refine ⟨fun h => (by cases h), fun j hj => ?_⟩
  rw [List.mem_singleton] at hj
  subst hj
  obtain ⟨v, y, h1, h2, h3⟩ := h x hx
  unfold wpOp
  rw [at_drop hi]
  dsimp only
  rw [if_pos hw]
  refine Or.inl ?_
  unfold Oper.wp
  rw [h1]
  exact ⟨h2, h3⟩
theorem wpL_done {l : Array Bool} {a : Act} {w : World} (hr : Region.ready md ops l = []) (h : ∀ x, Later w x → Q .normal a x) : ∀ n, wpL P md ops Q n l a w
  | 0 => ⟨hr, h⟩
  | _ + 1 => fun x hx => ⟨fun _ => h x hx, by rw [hr]; simp⟩
theorem wp_region_later {id : Nat} {a : Act} {w : World} (hm : P.follows .mixedOrders = true) (h : wpL P .any ops Q ops.size (Array.replicate ops.size false) a w.drew) : (Code.region id ops true).wp P Q a w :=
  wp_region_any hm (wpAny_of_L _ _ _ _ h)
end
section
variable {P : Program} {Q : Exit → Act → World → Prop} {md : Region.Mode}
/-- One alone may come up, and its call panics. -/
theorem wpL_panics {L r : List Oper} {i : Nat} {oi : Oper} {f : FuncId} {args : Array Value} {chain : List PanicEntry} {n : Nat} {l : Array Bool} {a : Act} {w : World} (hr : Region.ready md L.toArray l = [i]) (hi : L.drop i = oi :: r) (hw : Region.wanted oi (yielded L.toArray a.tmps) = true)
    (hy : ∀ x, Later w x → (execOp a.eval oi).run P x = .ok (.enter f args) x) (hc : ∀ x, Later w x → Calls P f args x fun e y => e = .panicked chain ∧ Q (.panic chain) a y) : wpL P md L.toArray Q (n + 1) l a w := by
  intro x hx
  rw [hr]
  refine ⟨fun h => (by cases h), fun j hj => ?_⟩
  rw [List.mem_singleton] at hj
  subst hj
  unfold wpOp
  rw [at_drop hi]
  dsimp only
  rw [if_pos hw]
  refine Or.inl ?_
  unfold Oper.wp
  rw [hy x hx]
  exact (hc x hx).mono (by rintro e y ⟨rfl, hq⟩; exact hq)
end
section
variable {P : Program} {Q : Exit → Act → World → Prop} {md : Region.Mode}
/-- Take number i: it is not wanted. -/
theorem wpL_skip {L r : List Oper} {i : Nat} {oi : Oper} {n : Nat} {l : Array Bool} {a : Act} {w : World} (hi : L.drop i = oi :: r) (hs : Region.noSelect L.toArray = true) (hf : Region.free md L.toArray l i = true) (hr : (Region.ready md L.toArray l).contains i = true)
    (hQ : ∀ c a w, Q (.panic c) (a.put oi.dst undef) w → Q (.panic c) a w) (hw : Region.wanted oi (yielded L.toArray a.tmps) = false)
    (h : wpL P md L.toArray Q n (l.setIfInBounds i true) (a.put oi.dst undef) w) : wpL P md L.toArray Q (n + 1) l a w :=
  wpL_first (at_drop hi) (Region.noSelect_spec hs) hQ n l a w (Region.free_spec (at_drop hi) hf) (by simpa using hr) (Or.inr ⟨hw, rfl⟩) h
end
end Go.Proofs.Ytcnjjbgilpgceaa
/- LtA: The program's own: texts and leases held against one another; leases that are right; leases that are old. -/
namespace Go.Proofs.Ytcnjjbgilpgceaa
set_option maxRecDepth 100000
open Go.RowKit BigFrame
attribute [local go_sem ↓] Go.wp_at_zero Go.wp_at_succ

theorem nan_str (x : ByteArray) (w : World) : Calls Try.prog 77 #[.string x] w fun e w' => e = .returned (.bool false) ∧ w' = w := by
  have h : (x.toList != x.toList) = false := by simp
  have h2 : (x.toList == x.toList) = true := by simp
  go_enter Try.func77, Try.ntmps77
  go_wp2_with fail
  go_ret
  exact ⟨rfl, rfl⟩
theorem cmp_str (x y : ByteArray) (w : World) : Calls Try.prog 67 #[.string x, .string y] w fun e w' => e = .returned (.int .i64 (cmpS x y)) ∧ w' = w := by
  have HN := Shut.mk (fun z => nan_str z w)
  have HI := Shut.mk (less_not x y)
  obtain ⟨R, hR⟩ : ∃ R, R = cmpS x y := ⟨_, rfl⟩
  rw [← hR]
  unfold cmpS lt9 at hR
  cases h1 : Op.bytesLess x.toList y.toList with
  | true =>
    rw [h1] at hR
    have HE : Shut (R = -1) := ⟨hR⟩
    clear hR
    go_enter Try.func67, Try.ntmps67
    go_wp2_with (go_at_call 77; refine (HN.out _).mono ?_; rintro e w1 ⟨rfl, hw1⟩; subst hw1)
    go_ret
    exact ⟨by rw [HE.out]; rfl, rfl⟩
  | false =>
    cases h2 : Op.bytesLess y.toList x.toList with
    | true =>
      rw [h1, h2] at hR
      have HE : Shut (R = 1) := ⟨hR⟩
      have h3 := HI.out h1 h2
      clear hR
      go_enter Try.func67, Try.ntmps67
      go_wp2_with (go_at_call 77; refine (HN.out _).mono ?_; rintro e w1 ⟨rfl, hw1⟩; subst hw1)
      go_ret
      exact ⟨by rw [HE.out]; rfl, rfl⟩
    | false =>
      rw [h1, h2] at hR
      have HE : Shut (R = 0) := ⟨hR⟩
      have h3 : (x.toList == y.toList) = true := same_of_not h1 h2
      clear hR
      go_enter Try.func67, Try.ntmps67
      go_wp2_with (go_at_call 77; refine (HN.out _).mono ?_; rintro e w1 ⟨rfl, hw1⟩; subst hw1)
      go_ret
      exact ⟨by rw [HE.out]; rfl, rfl⟩
set_option maxRecDepth 100000 in
theorem implCompareLeases (a b : LsM) (w : World) : Calls Try.prog 46 #[lsv a, lsv b] w fun e w' => e = .returned (.int .i64 (cmpS a.path b.path)) ∧ Below w.heap.size w w' := by
  have HS0 := Shut.mk (((SL.start w).new #[.string a.path, .int .i64 a.who, .int .i64 a.seen] 35).new #[.string b.path, .int .i64 b.who, .int .i64 b.seen] 35)
  simp only [World.size_alloc] at HS0
  have HC := Shut.mk (fun W => cmp_str a.path b.path W)
  obtain ⟨ap, aw, as9⟩ := a
  obtain ⟨bp, bw, bs⟩ := b
  dsimp only at *
  generalize cmpS ap bp = cv at HC ⊢
  go_enter Try.func46, Try.ntmps46
  go_upto_region 1 with fail
  refine wp_shade (fun W => SL w W [bxS (w.heap.size + 1) [.string bp, .int .i64 bw, .int .i64 bs], bxS w.heap.size [.string ap, .int .i64 aw, .int .i64 as9]]) HS0.out ?_
  intro W0 hW
  have H := Shut.mk hW
  clear HS0 hW
  have x0 := (H.out.bx 1 rfl 0 _ rfl).1
  have y0 := (H.out.bx 0 rfl 0 _ rfl).1
  go_wp2_with (go_at_call 67; refine (HC.out _).mono ?_; rintro e w1 ⟨rfl, hw1⟩; subst hw1)
  go_ret
  exact ⟨rfl, H.out.bel⟩
theorem implTimeOk (n : Int) (w : World) : Calls Try.prog 66 #[.int .i64 n] w fun e w' => e = .returned (.bool (inI n 0 1000000000)) ∧ w' = w := by
  by_cases h0 : 0 ≤ n
  · by_cases h1 : n ≤ 1000000000
    · rw [show inI n 0 1000000000 = true from inI_iff.2 ⟨h0, h1⟩]
      go_enter Try.func66, Try.ntmps66
      go_wp2_with fail
      go_ret
      exact ⟨rfl, rfl⟩
    · rw [show inI n 0 1000000000 = false by simp [inI, h1]]
      go_enter Try.func66, Try.ntmps66
      go_wp2_with fail
      go_ret
      exact ⟨rfl, rfl⟩
  · rw [show inI n 0 1000000000 = false by simp [inI, h0]]
    go_enter Try.func66, Try.ntmps66
    go_wp2_with fail
    go_ret
    exact ⟨rfl, rfl⟩
set_option maxRecDepth 100000 in
theorem implLeaseOk (f : LsM) (w : World) (hs : f.path.size ≤ 1048576) : Calls Try.prog 45 #[lsv f] w fun e w' => e = .returned (.bool (lsOne f)) ∧ Below w.heap.size w w' := by
  have HS0 := Shut.mk ((SL.start w).new #[.string f.path, .int .i64 f.who, .int .i64 f.seen] 35)
  have HN := Shut.mk (fun W => implHasName f.path W hs)
  have HT := Shut.mk (fun W => implTimeOk f.seen W)
  obtain ⟨R, hR⟩ : ∃ R, R = lsOne f := ⟨_, rfl⟩
  rw [← hR]
  have HQ := Shut.mk hR
  unfold lsOne at HQ
  clear hR hs
  obtain ⟨p, who, seen⟩ := f
  dsimp only at *
  generalize named p = b0 at HN HQ
  generalize inI seen 0 1000000000 = b3 at HT HQ
  go_enter Try.func45, Try.ntmps45
  go_upto_region 1 with fail
  refine wp_shade (fun W => SL w W [bxS w.heap.size [.string p, .int .i64 who, .int .i64 seen]]) HS0.out ?_
  intro W0 hW
  have H := Shut.mk hW
  clear HS0 hW
  have x0 := (H.out.bx 0 rfl 0 _ rfl).1
  cases b0 with
  | false =>
    go_wp2_with (go_at_call 65; refine (HN.out _).mono ?_; rintro e w1 ⟨rfl, hb⟩; have H1 := Shut.mk (H.out.below hb); clear hb x0)
    go_ret
    exact ⟨by rw [HQ.out]; rfl, H1.out.bel⟩
  | true =>
    by_cases h1 : 1 ≤ who
    · by_cases h2 : who ≤ 9
      · have HE : Shut (R = b3) := ⟨by rw [HQ.out]; simp [inI, h1, h2]⟩
        go_wp2_with (first | (go_at_call 65; refine (HN.out _).mono ?_; rintro e w1 ⟨rfl, hb⟩; have H1 := Shut.mk (H.out.below hb); have y1 := (H1.out.bx 0 rfl 1 _ rfl).1; have y2 := (H1.out.bx 0 rfl 2 _ rfl).1; clear hb x0) | (go_at_call 66; refine (HT.out _).mono ?_; rintro e w2 ⟨rfl, hw⟩; subst hw))
        go_ret
        exact ⟨by rw [HE.out]; rfl, H1.out.bel⟩
      · have HE : Shut (R = false) := ⟨by rw [HQ.out]; simp [inI, h2]⟩
        go_wp2_with (first | (go_at_call 65; refine (HN.out _).mono ?_; rintro e w1 ⟨rfl, hb⟩; have H1 := Shut.mk (H.out.below hb); have y1 := (H1.out.bx 0 rfl 1 _ rfl).1; have y2 := (H1.out.bx 0 rfl 2 _ rfl).1; clear hb x0) | (go_at_call 66; refine (HT.out _).mono ?_; rintro e w2 ⟨rfl, hw⟩; subst hw))
        go_ret
        exact ⟨by rw [HE.out]; rfl, H1.out.bel⟩
    · have HE : Shut (R = false) := ⟨by rw [HQ.out]; simp [inI, h1]⟩
      go_wp2_with (first | (go_at_call 65; refine (HN.out _).mono ?_; rintro e w1 ⟨rfl, hb⟩; have H1 := Shut.mk (H.out.below hb); have y1 := (H1.out.bx 0 rfl 1 _ rfl).1; have y2 := (H1.out.bx 0 rfl 2 _ rfl).1; clear hb x0) | (go_at_call 66; refine (HT.out _).mono ?_; rintro e w2 ⟨rfl, hw⟩; subst hw))
      go_ret
      exact ⟨by rw [HE.out]; rfl, H1.out.bel⟩
def agoX (f : LsM) (time now : Int) : Bool := inI f.seen 0 1000000000 && inI now 0 1000000000 && decide (time ≤ now - f.seen)
set_option maxRecDepth 100000 in
theorem implSeenAgo (f : LsM) (time now : Int) (w : World) : Calls Try.prog 64 #[lsv f, .int .i64 time, .int .i64 now] w fun e w' => e = .returned (.bool (agoX f time now)) ∧ Below w.heap.size w w' := by
  have HS0 := Shut.mk ((SL.start w).new #[.string f.path, .int .i64 f.who, .int .i64 f.seen] 35)
  have HT1 := Shut.mk (fun W => implTimeOk f.seen W)
  have HT2 := Shut.mk (fun W => implTimeOk now W)
  have HB1 : Shut (inI f.seen 0 1000000000 = true → 0 ≤ f.seen ∧ f.seen ≤ 1000000000) := ⟨fun h => inI_iff.1 h⟩
  have HB2 : Shut (inI now 0 1000000000 = true → 0 ≤ now ∧ now ≤ 1000000000) := ⟨fun h => inI_iff.1 h⟩
  obtain ⟨R, hR⟩ : ∃ R, R = agoX f time now := ⟨_, rfl⟩
  rw [← hR]
  have HQ := Shut.mk hR
  unfold agoX at HQ
  clear hR
  obtain ⟨p, who, seen⟩ := f
  dsimp only at *
  generalize inI seen 0 1000000000 = b1 at HT1 HQ HB1
  generalize inI now 0 1000000000 = b2 at HT2 HQ HB2
  go_enter Try.func64, Try.ntmps64
  go_upto_region 1 with fail
  refine wp_shade (fun W => SL w W [bxS w.heap.size [.string p, .int .i64 who, .int .i64 seen]]) HS0.out ?_
  intro W0 hW
  have H := Shut.mk hW
  clear HS0 hW
  have x2 := (H.out.bx 0 rfl 2 _ rfl).1
  cases b1 with
  | false =>
    go_wp2_with (go_at_call 66; (with_reducible refine (HT1.out _).mono ?_); rintro e w2 ⟨rfl, hw⟩; subst hw)
    go_ret
    exact ⟨by rw [HQ.out]; rfl, H.out.bel⟩
  | true =>
    cases b2 with
    | false =>
      go_wp2_with (first | (go_at_call 66; (with_reducible refine (HT1.out _).mono ?_); rintro e w2 ⟨rfl, hw⟩; subst hw) | (go_at_call 66; (with_reducible refine (HT2.out _).mono ?_); rintro e w2 ⟨rfl, hw⟩; subst hw))
      go_ret
      exact ⟨by rw [HQ.out]; rfl, H.out.bel⟩
    | true =>
      obtain ⟨p0, p1⟩ := HB1.out rfl
      obtain ⟨q0, q1⟩ := HB2.out rfl
      have HE : Shut (R = decide (time ≤ now - seen)) := ⟨by rw [HQ.out]; rfl⟩
      go_wp2_with (first | (go_at_call 66; (with_reducible refine (HT1.out _).mono ?_); rintro e w2 ⟨rfl, hw⟩; subst hw) | (go_at_call 66; (with_reducible refine (HT2.out _).mono ?_); rintro e w2 ⟨rfl, hw⟩; subst hw))
      go_ret
      exact ⟨by rw [HE.out]; rfl, H.out.bel⟩
set_option maxRecDepth 100000 in
theorem implMayGoTo (f g : LsM) (w : World) : Calls Try.prog 59 #[lsv f, lsv g] w fun e w' => e = .returned (.bool (mayX f g.who g.seen)) ∧ Below w.heap.size w w' := by
  have HS0 := Shut.mk (((SL.start w).new #[.string f.path, .int .i64 f.who, .int .i64 f.seen] 35).new #[.string g.path, .int .i64 g.who, .int .i64 g.seen] 35)
  simp only [World.size_alloc] at HS0
  have HA := Shut.mk (fun W => implSeenAgo f 5 g.seen W)
  obtain ⟨R, hR⟩ : ∃ R, R = mayX f g.who g.seen := ⟨_, rfl⟩
  rw [← hR]
  have HQ : Shut (R = ((f.who == g.who) || agoX f 5 g.seen)) := ⟨hR⟩
  clear hR
  generalize agoX f 5 g.seen = ba at HA HQ
  obtain ⟨fp, fw, fs⟩ := f
  obtain ⟨gp, gw, gs⟩ := g
  dsimp only at *
  go_enter Try.func59, Try.ntmps59
  go_upto_region 1 with fail
  refine wp_shade (fun W => SL w W [bxS (w.heap.size + 1) [.string gp, .int .i64 gw, .int .i64 gs], bxS w.heap.size [.string fp, .int .i64 fw, .int .i64 fs]]) HS0.out ?_
  intro W0 hW
  have H := Shut.mk hW
  clear HS0 hW
  have x0 := (H.out.bx 1 rfl 0 _ rfl).1
  have x1 := (H.out.bx 1 rfl 1 _ rfl).1
  have x2 := (H.out.bx 1 rfl 2 _ rfl).1
  have y1 := (H.out.bx 0 rfl 1 _ rfl).1
  have y2 := (H.out.bx 0 rfl 2 _ rfl).1
  by_cases hw : fw = gw
  · have hw' : (fw == gw) = true := by simpa using hw
    have HE : Shut (R = true) := ⟨by rw [HQ.out, hw']; rfl⟩
    clear hw
    go_wp2_with fail
    go_ret
    exact ⟨by rw [HE.out]; rfl, H.out.bel⟩
  · have hw' : (fw == gw) = false := by simpa using hw
    have HE : Shut (R = ba) := ⟨by rw [HQ.out, hw']; rfl⟩
    clear hw
    go_wp2_with (go_at_call 64; refine (HA.out _).mono ?_; rintro e w2 ⟨rfl, hb⟩; have H2 := Shut.mk (H.out.below hb); clear hb x0 x1 x2 y1 y2)
    go_ret
    exact ⟨by rw [HE.out]; rfl, H2.out.bel⟩
end Go.Proofs.Ytcnjjbgilpgceaa
/- LtB: The program's own LeasesOk; the library's slices.BinarySearchFunc over leases that go up. -/
namespace Go.Proofs.Ytcnjjbgilpgceaa
set_option maxRecDepth 100000
open Go.RowKit BigFrame
attribute [local go_sem ↓] Go.wp_at_zero Go.wp_at_succ

set_option maxRecDepth 100000 in
set_option maxHeartbeats 4000000 in
theorem implLeasesOk (us : List LsM) (a : Option Addr) (cap : Nat) (w : World) (hr : LsRow w a us) (hl : us.length ≤ 1048576) (hf : ∀ u ∈ us, u.path.size ≤ 1048576) :
    Calls Try.prog 18 #[.slice a us.length cap] w fun e w' => e = .returned (.bool (leasesOk us)) ∧ Below w.heap.size w w' := by
  have HR := Shut.mk hr
  have HF := Shut.mk hf
  clear hr hf
  obtain ⟨n, hn⟩ : ∃ n, n = us.length := ⟨_, rfl⟩
  have HN := Shut.mk hn
  rw [← hn] at hl ⊢
  clear hn
  obtain ⟨R, hR⟩ : ∃ R, R = leasesOk us := ⟨_, rfl⟩
  rw [← hR]
  have HQ := Shut.mk hR
  clear hR
  by_cases h8 : 8 < n
  · have HE : Shut (R = false) := ⟨by
      rw [HQ.out]
      cases hq : leasesOk us with
      | false => rfl
      | true => have := leasesOk_len hq; have := HN.out; omega⟩
    go_enter Try.func18, Try.ntmps18
    go_wp2_with fail
    go_ret
    exact ⟨by rw [HE.out]; rfl, Below.refl _ _⟩
  go_enter Try.func18, Try.ntmps18
  go_wp2_with fail
  go_loopw [10] (fun i wr => ∃ (k : Nat), i = .int .i64 k ∧ k ≤ n ∧ Shut (∀ j, j < k → lsAt us j = true) ∧ Shut (Below w.heap.size w wr)) (fun i _ => n - (intOf i).toNat)
  case atStart => exact ⟨0, rfl, Nat.zero_le _, ⟨fun j hj => by omega⟩, ⟨Below.refl _ _⟩⟩
  case round =>
    obtain ⟨k, rfl, hk, HG, HW⟩ := hrel
    by_cases hlt : k < n
    · have hku : k < us.length := by rw [← HN.out]; exact hlt
      obtain ⟨b, off, u, rfl, hu, lb, hc⟩ := ls_at HR.out HW.out hku
      obtain ⟨d0, d1, d2⟩ := hc wr (Below.refl _ _)
      have HU : Shut (us.getD k default = u) := ⟨(getD_ls us k hku).trans hu.symm⟩
      have k0 : (0 : Int) ≤ (k : Int) := by omega
      have k1 : (k : Int) < (n : Int) := by omega
      have HNO : Shut (lsAt us k = false → R = false) := ⟨fun h => HQ.out.trans (leasesOk_no hku h)⟩
      have HONE : Shut (lsAt us k = (lsOne u && (decide (k = 0) || lt9 (us.getD (k - 1) default).path u.path))) := ⟨by unfold lsAt; rw [HU.out]⟩
      have HLO := Shut.mk (fun W => implLeaseOk u W (by rw [hu]; exact HF.out _ (List.getElem_mem hku)))
      have HS0 := Shut.mk ((SL.start wr).new #[.string u.path, .int .i64 u.who, .int .i64 u.seen] 35)
      have HCC := Shut.mk (fun (W : World) (hb : Below wr.heap.size wr W) => hc W hb)
      have lbw : b < wr.heap.size := Nat.lt_of_lt_of_le lb HW.out.size
      clear hc hu
      go_upto_region 6 with fail
      refine wp_shade (fun W => SL wr W [bxS wr.heap.size [.string u.path, .int .i64 u.who, .int .i64 u.seen]]) HS0.out ?_
      intro W0 hW
      have H := Shut.mk hW
      have lq : wr.heap.size < W0.heap.size := (H.out.at 0 rfl).1
      have g0 : ∀ X : Grow W0, X.val.cell? ⟨wr.heap.size, 0, none⟩ = some (.string u.path) := fun X => X.cell (H.out.bx 0 rfl 0 _ rfl).1 lq
      have g1 : ∀ X : Grow W0, X.val.cell? ⟨wr.heap.size, 1, none⟩ = some (.int .i64 u.who) := fun X => X.cell (H.out.bx 0 rfl 1 _ rfl).1 lq
      have g2 : ∀ X : Grow W0, X.val.cell? ⟨wr.heap.size, 2, none⟩ = some (.int .i64 u.seen) := fun X => X.cell (H.out.bx 0 rfl 2 _ rfl).1 lq
      have HGR : Shut (∀ X : Grow W0, Below w.heap.size w X.val) := ⟨fun X => HW.out.trans ((H.out.bel.trans (X.bel.mono H.out.bel.size)).mono HW.out.size)⟩
      have HCW : Shut (∀ X : Grow W0, Below wr.heap.size wr X.val) := ⟨fun X => H.out.bel.trans (X.bel.mono H.out.bel.size)⟩
      have HLC := Shut.mk (fun X => calls_grow (w := W0) (fun W' (_ : Below W0.heap.size W0 W') => HLO.out W') X)
      clear HS0 hW d0 d1 d2 HLO lbw
      cases hone : lsOne u with
      | false =>
        rw [hone] at HLC HONE
        refine wp_region_grow (by kernel_rfl) (by kernel_rfl) ?_
        repeat (go_big_quiet_step (first | (go_at_call 45; with_reducible exact HLC.out _)))
        refine wpQuiet_nil ?_
        rintro _ ⟨X, rfl⟩
        clear g0 g1 g2
        go_wp2_with fail
        go_ret
        exact ⟨by rw [HNO.out (by rw [HONE.out]; rfl)]; rfl, HGR.out X⟩
      | true =>
        rw [hone] at HLC HONE
        by_cases hz : k = 0
        case pos =>
          have hz2 : ¬ 0 < k := by omega
          have hz' : decide (0 < k) = false := by simp; omega
          have hzd : decide (k = 0) = true := by simpa using hz
          clear hz
          refine wp_region_grow (by kernel_rfl) (by kernel_rfl) ?_
          repeat (go_big_quiet_step (first | (go_at_call 45; with_reducible exact HLC.out _)))
          refine wpQuiet_nil ?_
          rintro _ ⟨X, rfl⟩
          clear g0 g1 g2
          go_wp2_with fail
          go_roundw
          case rel => exact ⟨k + 1, by go_num, by omega, ⟨fun j hj => by rcases Nat.lt_succ_iff_lt_or_eq.1 hj with h | h; exact HG.out j h; subst h; rw [HONE.out]; simp [*]⟩, ⟨HGR.out X⟩⟩
          case measure => simp [intOf]; omega
        have hzd : decide (k = 0) = false := by simpa using hz
        have hz' : decide (0 < k) = true := by simp; omega
        have hz3 : 0 < k := by omega
        obtain ⟨b', off', y, e', hy, _, hc2⟩ := ls_at HR.out HW.out (k := k - 1) (by omega)
        obtain ⟨rfl, rfl⟩ : b = b' ∧ off = off' := by simpa using e'
        have HY : Shut (us.getD (k - 1) default = y) := ⟨(getD_ls us (k - 1) (by omega)).trans hy.symm⟩
        have p0 : ∀ X : Grow W0, X.val.cell? ⟨b, off + (k - 1) * 3, none⟩ = some (.string y.path) := fun X => (hc2 X.val (HCW.out X)).1
        have p1 : ∀ X : Grow W0, X.val.cell? ⟨b, off + (k - 1) * 3 + 1, none⟩ = some (.int .i64 y.who) := fun X => (hc2 X.val (HCW.out X)).2.1
        have p2 : ∀ X : Grow W0, X.val.cell? ⟨b, off + (k - 1) * 3 + 2, none⟩ = some (.int .i64 y.seen) := fun X => (hc2 X.val (HCW.out X)).2.2
        have hk1 : (k : Int) - 1 = ((k - 1 : Nat) : Int) := by omega
        have hk2 : (0 : Int) ≤ ((k - 1 : Nat) : Int) := by omega
        have hk3 : ((k - 1 : Nat) : Int) < (n : Int) := by omega
        have HCM := Shut.mk (fun X => calls_grow (w := W0) (fun W' (_ : Below W0.heap.size W0 W') => implCompareLeases y u W') X)
        have HNG := Shut.mk (cmpS_neg y.path u.path)
        have HO2 : Shut (lsAt us k = lt9 y.path u.path) := ⟨by rw [HONE.out, hzd, HY.out]; rfl⟩
        generalize cmpS y.path u.path = cv at HCM HNG
        clear hy e' hc2 hz
        by_cases hcv : cv < 0
        · have hcv2 : ¬ 0 ≤ cv := by omega
          refine wp_region_grow (by kernel_rfl) (by kernel_rfl) ?_
          repeat (go_big_quiet_step (first | (go_at_call 45; with_reducible exact HLC.out _) | (go_at_call 46; with_reducible exact HCM.out _)))
          refine wpQuiet_nil ?_
          rintro _ ⟨X, rfl⟩
          clear g0 g1 g2 p0 p1 p2
          go_wp2_with fail
          go_roundw
          case rel => exact ⟨k + 1, by go_num, by omega, ⟨fun j hj => by rcases Nat.lt_succ_iff_lt_or_eq.1 hj with h | h; exact HG.out j h; subst h; rw [HO2.out]; exact HNG.out.1 hcv⟩, ⟨HGR.out X⟩⟩
          case measure => simp [intOf]; omega
        · have hcv2 : 0 ≤ cv := by omega
          have HE : Shut (R = false) := ⟨HNO.out (by
            rw [HO2.out]
            cases hq : lt9 y.path u.path with
            | false => rfl
            | true => exact absurd (HNG.out.2 hq) hcv)⟩
          refine wp_region_grow (by kernel_rfl) (by kernel_rfl) ?_
          repeat (go_big_quiet_step (first | (go_at_call 45; with_reducible exact HLC.out _) | (go_at_call 46; with_reducible exact HCM.out _)))
          refine wpQuiet_nil ?_
          rintro _ ⟨X, rfl⟩
          clear g0 g1 g2 p0 p1 p2
          go_wp2_with fail
          go_ret
          exact ⟨by rw [HE.out]; rfl, HGR.out X⟩
    · obtain rfl : n = k := by omega
      have HE : Shut (R = true) := ⟨by
        rw [HQ.out, leasesOk_is fun j hj => HG.out j (by have := HN.out; omega), decide_eq_true_eq]
        have := HN.out
        omega⟩
      go_wp2_with fail
      go_ret
      exact ⟨by rw [HE.out]; rfl, HW.out⟩
set_option maxRecDepth 100000 in
set_option maxHeartbeats 2000000 in
theorem searchLease (us : List LsM) (a : Option Addr) (n cap : Nat) (u : LsM) (w : World) (hr : LsRow w a us) (hn : n = us.length) (hl : n ≤ 9000000) (hs : UpL us) :
    Calls Try.prog 58 #[.slice a n cap, lsv u, .func (.func 46) #[] #[]] w fun e w' => e = .returned (.tuple #[.int .i64 (posL us u.path), .bool (hereL us u.path)]) ∧ Below w.heap.size w w' := by
  have HS0 := Shut.mk ((SL.start w).new #[.string u.path, .int .i64 u.who, .int .i64 u.seen] 35)
  have HR := Shut.mk hr
  have HN := Shut.mk hn
  have HUP := Shut.mk hs
  clear hr hn hs
  go_enter Try.func58, Try.ntmps58
  go_upto_region 1 with fail
  refine wp_shade (fun W => SL w W [bxS w.heap.size [.string u.path, .int .i64 u.who, .int .i64 u.seen]]) HS0.out ?_
  intro W0 hW
  have HW := Shut.mk hW
  clear HS0 hW
  go_wp2_with fail
  go_loopw [9, 10] (fun v9 v10 wr => ∃ (p q : Nat), v9 = .int .i64 p ∧ v10 = .int .i64 q ∧ p ≤ q ∧ q ≤ n ∧ Shut (∀ j (hj : j < us.length), j < p → lt9 us[j].path u.path = true) ∧ Shut (∀ j (hj : j < us.length), q ≤ j → lt9 us[j].path u.path = false) ∧ Shut (SL w wr [bxS w.heap.size [.string u.path, .int .i64 u.who, .int .i64 u.seen]])) (fun v9 v10 _ => (intOf v10).toNat - (intOf v9).toNat)
  case atStart => exact ⟨0, n, rfl, rfl, Nat.zero_le _, Nat.le_refl _, ⟨fun j _ hj => by omega⟩, ⟨fun j hj hq => by have := HN.out; omega⟩, HW⟩
  case round =>
    clear HW
    obtain ⟨p, q, rfl, rfl, hpq, hqn, HLO, HHI, HW⟩ := hrel
    have lq : w.heap.size < wr.heap.size := (HW.out.at 0 rfl).1
    have g0 : ∀ X : Grow wr, X.val.cell? ⟨w.heap.size, 0, none⟩ = some (.string u.path) := fun X => X.cell (HW.out.bx 0 rfl 0 _ rfl).1 lq
    have g1 : ∀ X : Grow wr, X.val.cell? ⟨w.heap.size, 1, none⟩ = some (.int .i64 u.who) := fun X => X.cell (HW.out.bx 0 rfl 1 _ rfl).1 lq
    have g2 : ∀ X : Grow wr, X.val.cell? ⟨w.heap.size, 2, none⟩ = some (.int .i64 u.seen) := fun X => X.cell (HW.out.bx 0 rfl 2 _ rfl).1 lq
    have HGR : Shut (∀ X : Grow wr, SL w X.val [bxS w.heap.size [.string u.path, .int .i64 u.who, .int .i64 u.seen]]) := ⟨fun X => HW.out.below X.bel⟩
    have HNN := Shut.mk HN.out
    by_cases hlt : p < q
    · have hlt' : (p : Int) < (q : Int) := by omega
      obtain ⟨h, hh⟩ : ∃ h, h = (p + q) / 2 := ⟨_, rfl⟩
      have hhu : h < us.length := by have := HN.out; omega
      obtain ⟨b, off, x, rfl, hx, lb, hc⟩ := ls_at HR.out HW.out.bel hhu
      have p0 : ∀ X : Grow wr, X.val.cell? ⟨b, off + h * 3, none⟩ = some (.string x.path) := fun X => (hc X.val X.bel).1
      have p1 : ∀ X : Grow wr, X.val.cell? ⟨b, off + h * 3 + 1, none⟩ = some (.int .i64 x.who) := fun X => (hc X.val X.bel).2.1
      have p2 : ∀ X : Grow wr, X.val.cell? ⟨b, off + h * 3 + 2, none⟩ = some (.int .i64 x.seen) := fun X => (hc X.val X.bel).2.2
      have HCM := Shut.mk (fun X => calls_grow (w := wr) (fun W' (_ : Below wr.heap.size wr W') => implCompareLeases x u W') X)
      have HNG := Shut.mk (cmpS_neg x.path u.path)
      generalize cmpS x.path u.path = cv at HCM HNG
      have hdiv : ((p : Int) + (q : Int)) / 2 = (h : Int) := by omega
      have HPQ : Shut (p ≤ h ∧ h < q) := ⟨by omega⟩
      have h0 : (0 : Int) ≤ (h : Int) := by omega
      have h1 : (h : Int) < (n : Int) := by omega
      have HX : Shut (x = us[h]) := ⟨hx⟩
      clear hc hx hh
      go_upto_region 5 with fail
      have HST : Shut (∀ j (hj : j < us.length) k (hk : k < us.length), j < k → lt9 us[j].path us[k].path = true) := ⟨fun j hj k hk h => List.pairwise_iff_getElem.1 HUP.out j k hj hk h⟩
      by_cases hcv : cv < 0
      · have hx := HNG.out.1 hcv
        have HL2 : Shut (∀ j (hj : j < us.length), j < h + 1 → lt9 us[j].path u.path = true) := ⟨fun j hj hjh => by
          rcases Nat.lt_succ_iff_lt_or_eq.1 hjh with e | e
          · have := HST.out j hj h hhu e
            rw [← HX.out] at this
            exact lt9_trans this hx
          · subst e; rw [← HX.out]; exact hx⟩
        have hcd : decide (cv < 0) = true := by simpa using hcv
        clear hx
        refine wp_region_grow (by kernel_rfl) (by kernel_rfl) ?_
        repeat (go_big_quiet_step (first | (go_at_call 46; with_reducible exact HCM.out _)))
        refine wpQuiet_nil ?_
        rintro _ ⟨X, rfl⟩
        clear g0 g1 g2 p0 p1 p2
        go_wp2_with fail
        go_roundw
        case rel => exact ⟨h + 1, q, by go_num, rfl, by have := HPQ.out; omega, hqn, HL2, HHI, ⟨HGR.out X⟩⟩
        case measure => have := HPQ.out; simp [intOf]; omega
      · have hx : lt9 x.path u.path = false := by
          cases hq : lt9 x.path u.path with
          | false => rfl
          | true => exact absurd (HNG.out.2 hq) hcv
        have HH2 : Shut (∀ j (hj : j < us.length), h ≤ j → lt9 us[j].path u.path = false) := ⟨fun j hj hjh => by
          rcases Nat.lt_or_eq_of_le hjh with e | e
          · cases hq : lt9 us[j].path u.path with
            | false => rfl
            | true =>
              have := lt9_trans (HST.out h hhu j hj e) hq
              rw [← HX.out, hx] at this
              cases this
          · subst e; rw [← HX.out]; exact hx⟩
        have hcd : decide (cv < 0) = false := by simpa using hcv
        clear hx
        refine wp_region_grow (by kernel_rfl) (by kernel_rfl) ?_
        repeat (go_big_quiet_step (first | (go_at_call 46; with_reducible exact HCM.out _)))
        refine wpQuiet_nil ?_
        rintro _ ⟨X, rfl⟩
        clear g0 g1 g2 p0 p1 p2
        go_wp2_with fail
        go_roundw
        case rel => exact ⟨p, h, rfl, rfl, by have := HPQ.out; omega, by have := HPQ.out; omega, HLO, HH2, ⟨HGR.out X⟩⟩
        case measure => have := HPQ.out; simp [intOf]; omega
    · obtain rfl : p = q := by omega
      go_upto_region 8 with fail
      by_cases hpn : p < n
      · have hpu : p < us.length := by have := HN.out; omega
        obtain ⟨b, off, x, rfl, hx, lb, hc⟩ := ls_at HR.out HW.out.bel hpu
        have p0 : ∀ X : Grow wr, X.val.cell? ⟨b, off + p * 3, none⟩ = some (.string x.path) := fun X => (hc X.val X.bel).1
        have p1 : ∀ X : Grow wr, X.val.cell? ⟨b, off + p * 3 + 1, none⟩ = some (.int .i64 x.who) := fun X => (hc X.val X.bel).2.1
        have p2 : ∀ X : Grow wr, X.val.cell? ⟨b, off + p * 3 + 2, none⟩ = some (.int .i64 x.seen) := fun X => (hc X.val X.bel).2.2
        have HCM := Shut.mk (fun X => calls_grow (w := wr) (fun W' (_ : Below wr.heap.size wr W') => implCompareLeases x u W') X)
        have HCT : Shut (p = posL us u.path ∧ (cmpS x.path u.path == 0) = hereL us u.path) := ⟨by
          have e := pos_is (p := u.path) (i := p) (by have := HN.out; omega) HLO.out HHI.out
          refine ⟨e.symm, ?_⟩
          have hz := cmpS_zero x.path u.path
          have hh := here_iff HUP.out u.path
          rw [e] at hh
          rw [Bool.eq_iff_iff, hh, beq_iff_eq, hz, hx]
          exact ⟨fun q => ⟨hpu, q⟩, fun ⟨_, q⟩ => q⟩⟩
        generalize cmpS x.path u.path = cv at HCM HCT
        have hpd : decide ((p : Int) < (n : Int)) = true := by simp; omega
        have hpi : (p : Int) < (n : Int) := by omega
        have hp0 : (0 : Int) ≤ (p : Int) := by omega
        clear hc hx
        refine wp_region_grow (by kernel_rfl) (by kernel_rfl) ?_
        repeat (go_big_quiet_step (first | (go_at_call 46; with_reducible exact HCM.out _)))
        refine wpQuiet_nil ?_
        rintro _ ⟨X, rfl⟩
        clear g0 g1 g2 p0 p1 p2
        go_wp2_with fail
        go_ret2
        exact ⟨by rw [← HCT.out.1, ← HCT.out.2]; rfl, (HGR.out X).bel⟩
      · have HCT : Shut (p = posL us u.path ∧ false = hereL us u.path) := ⟨by
          have e := pos_is (p := u.path) (i := p) (by have := HN.out; omega) HLO.out HHI.out
          refine ⟨e.symm, ?_⟩
          have hh := here_iff HUP.out u.path
          rw [e] at hh
          cases hq : hereL us u.path with
          | false => rfl
          | true => obtain ⟨q, _⟩ := hh.1 hq; have := HN.out; omega⟩
        have hpd : decide ((p : Int) < (n : Int)) = false := by simp; omega
        have hpd2 : decide (p < n) = false := by simp; omega
        refine wp_region_grow (by kernel_rfl) (by kernel_rfl) ?_
        repeat (go_big_quiet_step (fail))
        refine wpQuiet_nil ?_
        rintro _ ⟨X, rfl⟩
        clear g0 g1 g2
        go_wp2_with fail
        go_ret2
        exact ⟨by rw [← HCT.out.1, ← HCT.out.2]; rfl, (HGR.out X).bel⟩
end Go.Proofs.Ytcnjjbgilpgceaa
/- MuL: The lock's functions and types in this seat, by number. -/
namespace Go.Proofs.Ytcnjjbgilpgceaa
set_option maxRecDepth 100000
abbrev muLink : Go.Conc.Locks.MuLink := { lock := 56, unlock := 57, ilock := 70, iunlock := 71, lockSlow := 84, unlockSlow := 87, disable := 80, enable := 82, acquire := 83, relMerge := 85, cas32 := 81, add32 := 86, tMutex := 82, tIMutex := 80, tPMutex := 96, tPIMutex := 102, tPI32 := 104, tUP := 106, tNoCopy := 77, tU32 := 78 }
theorem muLib : Go.Conc.Locks.MuLib Try.prog muLink :=
  ⟨Try.func56, Try.func57, Try.func70, Try.func71, Try.func80, Try.func82, Try.func83, Try.func85, Try.func81, Try.func86, Try.underlying80, Try.runUnderlying80, Try.sizeOf80, Try.isAgg80, Try.zeroValue80, Try.underlying82, Try.runUnderlying82, Try.sizeOf82, Try.isAgg82, Try.zeroValue82, Try.underlying96, Try.runUnderlying96, Try.sizeOf96, Try.isAgg96, Try.zeroValue96, Try.underlying102, Try.runUnderlying102, Try.sizeOf102, Try.isAgg102, Try.zeroValue102, Try.underlying104, Try.runUnderlying104, Try.sizeOf104, Try.isAgg104, Try.zeroValue104, Try.underlying106, Try.runUnderlying106, Try.sizeOf106, Try.isAgg106, Try.zeroValue106, Try.underlying77, Try.runUnderlying77, Try.sizeOf77, Try.isAgg77, Try.zeroValue77, Try.underlying21, Try.runUnderlying21, Try.sizeOf21, Try.isAgg21, Try.zeroValue21, by kernel_rfl⟩
end Go.Proofs.Ytcnjjbgilpgceaa
/- ClS: The library's strings.Clone. -/
namespace Go.Proofs.Ytcnjjbgilpgceaa
set_option maxRecDepth 100000
open Go.RowKit BigFrame
attribute [local go_sem ↓] Go.wp_at_zero Go.wp_at_succ

set_option maxRecDepth 100000 in
theorem implClone (s : ByteArray) (w : World) (hs : s.size ≤ 281474976710656) : Calls Try.prog 61 #[.string s] w fun e w' => e = .returned (.string s) ∧ Below w.heap.size w w' := by
  have HC := Shut.mk (fun W => Try.stringslite_Clone s W hs)
  go_enter Try.func61, Try.ntmps61
  go_wp2_with fail
  refine (HC.out _).mono ?_
  rintro e w1 ⟨rfl, hb⟩
  go_wp2_with fail
  go_ret
  exact ⟨rfl, hb⟩
end Go.Proofs.Ytcnjjbgilpgceaa
/- LtC: The program's own table of leases: made, told, asked, renewed. -/
namespace Go.Proofs.Ytcnjjbgilpgceaa
set_option maxRecDepth 100000
open Go.RowKit BigFrame
attribute [local go_sem ↓] Go.wp_at_zero Go.wp_at_succ

theorem eqgLease (x y : Operand) (a : Option Addr) (n c : Nat) (W : World) : Sem.run Try.prog (eqGuard BinOp.eql 24 x y (.slice a n c) (.slice none 0 0)) W = .ok () W := by
  cases a <;> kernel_rfl
theorem eqNoneLease (n c : Nat) (W : World) : Sem.run Try.prog (binOp BinOp.eql 24 (.slice none n c) (.slice none 0 0)) W = .ok (.bool true) W := by kernel_rfl
theorem eqSomeLease (q : Addr) (n c : Nat) (W : World) : Sem.run Try.prog (binOp BinOp.eql 24 (.slice (some q) n c) (.slice none 0 0)) W = .ok (.bool false) W := by kernel_rfl
attribute [local go_sem] eqgLease eqNoneLease eqSomeLease
/-- A row of leases is copied. -/
def cloneLPost (L : List Value) (n : Nat) (w : World) (e : Ending) (w' : World) : Prop := ∃ (a : Option Addr) (c : Nat), e = .returned (.slice a n c) ∧ w'.ownsRow w.heap.size 35 3 (.slice a n c) n L ∧ Below w.heap.size w w'
set_option maxRecDepth 100000 in
set_option maxHeartbeats 1000000 in
theorem cloneL_any {w : World} {a : Option Addr} {n cap : Nat} {ps : List LsM} (h : CRow w a (lsS ps)) (hn : n = ps.length) (hl : n ≤ 1048576) : Calls Try.prog 55 #[.slice a n cap] w fun e w' => cloneLPost (lsS ps) n w e w' := by
  have hv : ∀ u ∈ lsS ps, u.oneCell' = true := lss_one ps
  have hL : (lsS ps).length = n * 3 := by rw [lsS_len, hn]
  have HV := Shut.mk hv
  generalize lsS ps = L at h HV hL ⊢
  clear hn hv
  obtain ⟨j0, hjn, hy0, hy1, hy2⟩ := info_parts infoLease
  have HL := Shut.mk hL
  clear hL
  rcases Nat.eq_zero_or_pos n with h0 | hp
  · have hL0 : L = [] := List.eq_nil_of_length_eq_zero (by rw [HL.out, h0, Nat.zero_mul])
    subst h0
    subst hL0
    clear h
    cases a with
    | none =>
      go_enter Try.func55, Try.ntmps55
      go_wp2_with fail
      go_ret
      exact ⟨none, 0, rfl, World.ownsRow_nil w w.heap.size 35 3, Below.refl _ _⟩
    | some q =>
      have hap : ∀ (W : World) (g : Addr), ∀ ty, (Builtin.append_ #[24, 24] ty #[.slice (some g) 0 0, .slice (some q) 0 cap]).run Try.prog W = .ok (.slice (some g) 0 0) W := fun W g ty =>
        run_append_nothing W _ _ _ _ j0 Try.underlying24 hjn (some g) 0 0 (Nat.le_refl _) _ (Src.ofSlice W Try.underlying24 q 0 cap [] (by simp) (by simp) (by simp))
      have HAP := Shut.mk hap
      clear hap
      go_enter Try.func55, Try.ntmps55
      go_wp2_with (at_builtin; refine wpList_append_nothing _ rfl _ _ 24 rfl _ _ rfl rfl (HAP.out _ _) ?_)
      go_ret
      exact ⟨some ⟨w.heap.size, 0, none⟩, 0, rfl, World.ownsRow_made (e := 35) (size := 3) (base := w.heap.size) w #[] 0 (Nat.le_refl _) (by decide) rfl, (Below.refl _ _).alloc (Nat.le_refl _) _⟩
  · have hLp : 0 < L.length := by rw [HL.out]; omega
    obtain ⟨pb, poff, rfl, lpb, hpc⟩ := h hLp
    have HPC := Shut.mk hpc
    clear hpc h hLp
    go_enter Try.func55, Try.ntmps55
    have hmade := World.ownsRow_made (e := 35) (size := 3) (base := w.heap.size) w #[] 0 (Nat.le_refl _) (by decide) rfl
    go_wp2_with (at_builtin; refine wpList_append_own _ rfl _ _ 24 rfl w.heap.size 35 j0 _ 3 32 Try.underlying24 hjn hy0 hy1 hy2 rfl (by decide) _ 0 [] rfl hmade ⟨pb, poff, none⟩ n cap L rfl ?c0 ?c1 ?c2 ?c3 ?c4 ?c5 ?_)
    case c0 => first | exact HL.out | (rw [HL.out]; omega)
    case c1 =>
      intro i u hu
      have e : (⟨pb, poff, none⟩ : Addr).add i = ⟨pb, poff + i, none⟩ := by cases i <;> simp [Addr.add]
      rw [e, ← HPC.out i u hu]
      exact ((Below.refl w.heap.size w).alloc (Nat.le_refl _) _).cell (p := ⟨pb, poff + i, none⟩) lpb
    case c2 => exact HV.out
    case c3 => unfold maxLen; omega
    case c4 => omega
    case c5 => simp
    intro v' w10 ho10 hgrow _
    obtain ⟨a9, c9, rfl⟩ := own_row_slice ho10
    have HO := Shut.mk ho10
    have HB : Shut (Below w.heap.size w w10) := ⟨((Below.refl w.heap.size w).alloc (Nat.le_refl _) _).grown hgrow (by simp) (fun j hj => by cases hj; exact Nat.le_refl _)⟩
    clear ho10 hgrow hmade
    go_wp2_with fail
    go_ret
    exact ⟨a9, c9, rfl, HO.out, HB.out⟩
/-- The table: its lock, free or held, and its row. -/
abbrev tbS (tb : Nat) (s : Int) (v : Value) : Str := bxS tb [.int .i32 s, .int .u32 0, v]
set_option maxRecDepth 100000 in
theorem implTableOf (us : List LsM) (a : Option Addr) (cap : Nat) (w : World) (hr : LsRow w a us) (hl : us.length ≤ 1048576) :
    Calls Try.prog 38 #[.slice a us.length cap] w fun e w' => ∃ tb v, e = .returned (.pointer (some ⟨tb, 0, none⟩)) ∧ OwS w w' [tbS tb 0 v] 35 3 v us.length (lsS us) := by
  have HC := Shut.mk (cloneL_any (cap := cap) hr rfl hl)
  unfold cloneLPost at HC
  generalize us.length = n at HC ⊢
  clear hr hl
  go_enter Try.func38, Try.ntmps38
  go_wp2_with (go_at_call 55; refine HC.out.mono ?_; rintro e w1 ⟨a1, c1, rfl, ho, hb⟩; have HO := Shut.mk ((⟨(SL.start w).below hb, ho, fun _ _ _ h => by cases h⟩ : OwS w w1 [] 35 3 (.slice a1 n c1) n (lsS us)).box #[.int .i32 0, .int .u32 0, .slice a1 n c1] 84); clear ho hb)
  go_ret
  exact ⟨_, _, rfl, HO.out⟩
set_option maxRecDepth 100000 in
set_option maxHeartbeats 4000000 in
theorem implTold {w0 W : World} {tb n : Nat} {v : Value} {L : List LsM} (h : OwS w0 W [tbS tb 0 v] 35 3 v n (lsS L)) (hn : n = L.length) (hl : n ≤ 3000000) (hz : ∀ u ∈ L, u.path.size ≤ 1048576) :
    Calls Try.prog 40 #[.pointer (some ⟨tb, 0, none⟩)] W fun e W' => LsPost L w0 e W' := by
  obtain ⟨i0, hin, hz0, hz1, hz2⟩ := info_parts infoLease
  obtain ⟨av, cv, rfl⟩ := own_row_slice h.own
  obtain ⟨x0, z0⟩ := h.sl.bx 0 rfl 0 _ rfl
  have hB0 : w0.heap.size ≤ tb := (h.sl.is _ (List.mem_cons_self ..)).2.2.1
  have HW1 := Shut.mk (h.put 0 rfl 0 (.int .i32 1) (by simp))
  simp only [List.set_cons_zero] at HW1
  have HN := Shut.mk hn
  have HZ := Shut.mk hz
  clear h hz hn
  go_enter_defers Try.func40, Try.ntmps40
  go_upto_region 3 with (go_at_call 56; refine (Go.MuLone.lock_free muLib ⟨tb, 0, none⟩ _ x0 z0).mono ?_; rintro e w1 ⟨rfl, rfl⟩)
  refine wp_shade (fun V => OwS w0 V [tbS tb 1 (.slice av n cv)] 35 3 (.slice av n cv) n (lsS L)) HW1.out ?_
  intro W1 hW1
  have H1 := Shut.mk hW1
  have HR1 := Shut.mk (FRw.of_own hW1.own).1.crow
  have ltb : tb < W1.heap.size := (hW1.sl.at 0 rfl).1
  clear HW1 hW1 x0 z0
  obtain ⟨W2, hmk, hown, hgr⟩ := run_make_own (P := Try.prog) W1 W1.heap.size 24 35 i0 _ 3 Try.underlying24 hin hz0 hz1 .i64 .i64 n (by rw [hz2]; omega) (by unfold maxLen; omega) (Nat.le_refl _)
  have HO := Shut.mk (OwS.more (OwS.nil (ty := 35) (sz := 3) (SL.start W1)) (Below.refl _ _) hown hgr (.inr rfl))
  have y2 := (H1.out.sl.bx 0 rfl 2 _ rfl).1
  have z2 : W2.cell? ⟨tb, 2, none⟩ = some (.slice av n cv) := (HO.out.sl.bel.cell (p := ⟨tb, 2, none⟩) ltb).trans y2
  obtain ⟨g0, hg0⟩ : ∃ q, q = W1.heap.size := ⟨_, rfl⟩
  clear hown hgr
  go_wp2_with fail
  clear y2 z2 hmk hg0 g0
  go_loopw [3, 24] (fun v9 i9 wr => ∃ (k : Nat), i9 = .int .i64 k ∧ k ≤ n ∧ Shut (OwS W1 wr [] 35 3 v9 k (lsS (L.take k)))) (fun _ i9 _ => n - (intOf i9).toNat)
  case atStart => exact ⟨0, rfl, Nat.zero_le _, HO⟩
  case round =>
    clear HO
    obtain ⟨k, rfl, hk, HW⟩ := hrel
    obtain ⟨av9, cv9, rfl⟩ := own_row_slice HW.out.own
    by_cases hlt : k < n
    · have hku : k < L.length := by rw [← HN.out]; exact hlt
      obtain ⟨b, off, u, rfl, hu, lb, hc⟩ := ls_at HR1.out HW.out.sl.bel hku
      obtain ⟨d0, d1, d2⟩ := hc wr (Below.refl _ _)
      have k0 : (0 : Int) ≤ (k : Int) := by omega
      have k1 : (k : Int) < (n : Int) := by omega
      have HUT : Shut (u.path.size ≤ 1048576) := ⟨by rw [hu]; exact HZ.out _ (List.getElem_mem hku)⟩
      have HNX : Shut (lsS (L.take (k + 1)) = lsS (L.take k) ++ [.string u.path, .int .i64 u.who, .int .i64 u.seen]) := ⟨by rw [List.take_succ_eq_append_getElem hku, ← hu, lss_snoc]; rfl⟩
      have HX := Shut.mk (HW.out.box #[.string u.path, .int .i64 u.who, .int .i64 u.seen] 35)
      obtain ⟨bb, hbb⟩ : ∃ q, q = wr.heap.size := ⟨_, rfl⟩
      rw [← hbb] at HX
      clear hc hu
      go_upto_region 7 with fail
      refine wp_shade (fun W => OwS W1 W (bxS bb [.string u.path, .int .i64 u.who, .int .i64 u.seen] :: []) 35 3 (.slice av9 k cv9) k (lsS (L.take k))) HX.out ?_
      intro W3 hW
      rw [← hbb]
      have H2 := Shut.mk hW
      clear hW HX hbb d0 d1 d2 HW
      have z0 := (H2.out.sl.bx 0 rfl 0 _ rfl).1
      go_upto_region 8 with (go_at_call 61; refine (implClone u.path _ (by have := HUT.out; omega)).mono ?_; rintro e w3 ⟨rfl, hb⟩; have H3 := Shut.mk (H2.out.below hb); obtain ⟨y2, y2z⟩ := H3.out.sl.bx 0 rfl 0 _ rfl; clear hb z0 H2)
      have H4 := Shut.mk (H3.out.put 0 rfl 0 (.string u.path) (by simp))
      simp only [List.set_cons_zero] at H4
      refine wp_shade (fun W => OwS W1 W (bxS bb [.string u.path, .int .i64 u.who, .int .i64 u.seen] :: []) 35 3 (.slice av9 k cv9) k (lsS (L.take k))) H4.out ?_
      intro W4 hW
      have H5 := Shut.mk hW
      clear hW H4 H3 y2 y2z
      have z0 := (H5.out.sl.bx 0 rfl 0 _ rfl).1
      have z1 := (H5.out.sl.bx 0 rfl 1 _ rfl).1
      have z2 := (H5.out.sl.bx 0 rfl 2 _ rfl).1
      have lz : bb < W4.heap.size := (show WCells W4 bb _ from H5.out.sl.at 0 rfl).1
      have hown := H5.out.own
      have hbs := H5.out.sl.bel.size
      go_wp2_with (at_builtin; refine wpList_append_own_at _ rfl _ _ 24 rfl W1.heap.size 35 i0 _ 3 32 Try.underlying24 hin hz0 hz1 hz2 rfl (by decide) _ _ _ rfl (hown.alloc _) ⟨W4.heap.size, 0, none⟩ 1 1 [.string u.path, .int .i64 u.who, .int .i64 u.seen] rfl rfl (World.news_of_block (cs := #[.string u.path, .int .i64 u.who, .int .i64 u.seen]) (t := 35) (fr := (0, 0)) (heap_alloc_new W4 _)) ?c2 ?c3 ?c4 ?c5 ?_)
      case c2 => simp [Value.oneCell']
      case c3 => unfold maxLen; omega
      case c4 => omega
      case c5 => first | omega | (simp; omega)
      intro v9 w9 ho hg _ hat
      have HL9 := Shut.mk (H5.out.more ((Below.refl _ _).alloc (Nat.le_refl _) _) ho hg (by simpa using hat)).tail
      rw [← HNX.out] at HL9
      clear ho hg hat hown hbs z0 z1 z2 lz H5
      go_wp2_with fail
      go_roundw
      case rel => exact ⟨k + 1, by go_num, by omega, HL9⟩
      case measure => simp [intOf]; omega
    · obtain rfl : k = n := by omega
      rw [List.take_of_length_le (by have := HN.out; omega)] at HW
      obtain ⟨q0, q1⟩ := H1.out.sl.bx 0 rfl 0 _ rfl
      have r0 := (HW.out.sl.bel.cell (p := ⟨tb, 0, none⟩) ltb).trans q0
      have r1 := (HW.out.sl.bel.frozen (p := ⟨tb, 0, none⟩) ltb).trans q1
      obtain ⟨a8, c8, e8, hf8, hc8⟩ := HW.out.frw
      obtain ⟨rfl, rfl⟩ : av9 = a8 ∧ cv9 = c8 := by simpa using e8
      have HF := Shut.mk (rwS.loc av9 (lsS L) W1.heap.size wr.heap.size wr (wr.setCell ⟨tb, 0, none⟩ (.int .i32 0)) tb (tb + 1) hf8 (Turned.of_grown (gb_set' wr tb 0 _) (Nat.le_refl _) (Nat.lt_succ_self _)) (.inr ltb))
      have HB := Shut.mk ((H1.out.sl.bel.trans (HW.out.sl.bel.mono H1.out.sl.bel.size)).setCell (p := ⟨tb, 0, none⟩) hB0 (.int .i32 0))
      clear hf8 e8 q0 q1
      go_wp2_with fail
      refine leaves_cons (f := 57) (args := #[.pointer (some ⟨tb, 0, none⟩)]) (by simp) (by simp [go_sem]) ?_
      refine (Go.MuLone.unlock_deferred muLib ⟨tb, 0, none⟩ .returning _ r0 r1).mono ?_
      rintro e u' w'' ⟨rfl, rfl, rfl⟩
      exact ⟨_, results_tmp rfl _ _ _, av9, cv9, by rw [HN.out]; rfl, frw_wide9 HF.out H1.out.sl.bel.size (by simp [World.setCell]), by rw [← HN.out]; exact hc8, HB.out⟩
/-- The lock is given back at the door. -/
theorem at_door {w0 W1 wr : World} {tb : Nat} {v : Value} {n : Nat} {X : List Value} (h : OwS w0 W1 [tbS tb 1 v] 35 3 v n X) (hb : Below W1.heap.size W1 wr) : wr.cell? ⟨tb, 0, none⟩ = some (.int .i32 1) ∧ wr.frozen? ⟨tb, 0, none⟩ = false ∧ Below w0.heap.size w0 (wr.setCell ⟨tb, 0, none⟩ (.int .i32 0)) := by
  have ltb : tb < W1.heap.size := (h.sl.at 0 rfl).1
  have hB0 : w0.heap.size ≤ tb := (h.sl.is _ (List.mem_cons_self ..)).2.2.1
  obtain ⟨q0, q1⟩ := h.sl.bx 0 rfl 0 _ rfl
  exact ⟨(hb.cell (p := ⟨tb, 0, none⟩) ltb).trans q0, (hb.frozen (p := ⟨tb, 0, none⟩) ltb).trans q1, (h.sl.bel.trans (hb.mono h.sl.bel.size)).setCell (p := ⟨tb, 0, none⟩) hB0 (.int .i32 0)⟩
set_option maxRecDepth 100000 in
set_option maxHeartbeats 4000000 in
theorem implHolder {w0 W : World} {tb n : Nat} {v : Value} {L : List LsM} (h : OwS w0 W [tbS tb 0 v] 35 3 v n (lsS L)) (hn : n = L.length) (hl : n ≤ 3000000) (p : ByteArray) :
    Calls Try.prog 44 #[.pointer (some ⟨tb, 0, none⟩), .string p] W fun e W' => e = .returned (.int .i64 (holderX L p)) ∧ Below w0.heap.size w0 W' := by
  obtain ⟨av, cv, rfl⟩ := own_row_slice h.own
  obtain ⟨x0, z0⟩ := h.sl.bx 0 rfl 0 _ rfl
  have HW1 := Shut.mk (h.put 0 rfl 0 (.int .i32 1) (by simp))
  simp only [List.set_cons_zero] at HW1
  have HN := Shut.mk hn
  obtain ⟨R, hR⟩ : ∃ R, R = holderX L p := ⟨_, rfl⟩
  rw [← hR]
  have HQ := Shut.mk hR
  clear h hn hR
  go_enter_defers Try.func44, Try.ntmps44
  go_upto_region 3 with (go_at_call 56; refine (Go.MuLone.lock_free muLib ⟨tb, 0, none⟩ _ x0 z0).mono ?_; rintro e w1 ⟨rfl, rfl⟩)
  refine wp_shade (fun V => OwS w0 V [tbS tb 1 (.slice av n cv)] 35 3 (.slice av n cv) n (lsS L)) HW1.out ?_
  intro W1 hW1
  have H1 := Shut.mk hW1
  have HR1 := Shut.mk (FRw.of_own hW1.own).1.crow
  clear HW1 hW1 x0 z0
  have y2 := (H1.out.sl.bx 0 rfl 2 _ rfl).1
  go_wp2_with fail
  clear y2
  go_loopw [19] (fun i9 wr => ∃ (k : Nat), i9 = .int .i64 k ∧ k ≤ n ∧ Shut (∀ j (hj : j < L.length), j < k → (L[j].path.toList == p.toList) = false) ∧ Shut (Below W1.heap.size W1 wr)) (fun i9 _ => n - (intOf i9).toNat)
  case atStart => exact ⟨0, rfl, Nat.zero_le _, ⟨fun j _ hj => by omega⟩, ⟨Below.refl _ _⟩⟩
  case round =>
    obtain ⟨k, rfl, hk, HG, HW⟩ := hrel
    by_cases hlt : k < n
    · have hku : k < L.length := by rw [← HN.out]; exact hlt
      obtain ⟨b, off, u, rfl, hu, lb, hc⟩ := ls_at HR1.out HW.out hku
      obtain ⟨d0, d1, d2⟩ := hc wr (Below.refl _ _)
      have k0 : (0 : Int) ≤ (k : Int) := by omega
      have k1 : (k : Int) < (n : Int) := by omega
      have lbw : b < wr.heap.size := Nat.lt_of_lt_of_le lb HW.out.size
      have HNX : Shut ((u.path.toList == p.toList) = false → ∀ j (hj : j < L.length), j < k + 1 → (L[j].path.toList == p.toList) = false) := ⟨fun h j hj hjk => by
        rcases Nat.lt_succ_iff_lt_or_eq.1 hjk with e | e
        · exact HG.out j hj e
        · subst e; rw [← hu]; exact h⟩
      have HYS : Shut ((u.path.toList == p.toList) = true → R = u.who) := ⟨fun h => by
        rw [HQ.out]
        unfold holderX
        rw [lsIdx_found hku (by rw [← hu]; exact h) HG.out, if_pos hku, getD_ls L k hku, ← hu]⟩
      have HX : Shut (SL wr (wr.alloc (.cells #[.string u.path, .int .i64 u.who, .int .i64 u.seen] 35)) [bxS wr.heap.size [.string u.path, .int .i64 u.who, .int .i64 u.seen]]) := ⟨(SL.start wr).new #[.string u.path, .int .i64 u.who, .int .i64 u.seen] 35⟩
      have HBX : Shut (Below W1.heap.size W1 (wr.alloc (.cells #[.string u.path, .int .i64 u.who, .int .i64 u.seen] 35))) := ⟨HW.out.trans ((Below.refl wr.heap.size wr).alloc (Nat.le_refl _) _ |>.mono HW.out.size)⟩
      clear hc hu
      go_upto_region 6 with fail
      refine wp_shade (fun W => SL wr W [bxS wr.heap.size [.string u.path, .int .i64 u.who, .int .i64 u.seen]] ∧ Below W1.heap.size W1 W) ⟨HX.out, HBX.out⟩ ?_
      rintro W3 ⟨hW3, hb3⟩
      have H3 := Shut.mk hW3
      have HB3 := Shut.mk hb3
      have z0 := (H3.out.bx 0 rfl 0 _ rfl).1
      have z1 := (H3.out.bx 0 rfl 1 _ rfl).1
      clear hW3 hb3 HX HBX d0 d1 d2 HW lbw
      cases hq : (u.path.toList == p.toList) with
      | false =>
        have HX2 := Shut.mk (HNX.out hq)
        go_wp2_with fail
        go_roundw
        case rel => exact ⟨k + 1, by go_num, by omega, HX2, HB3⟩
        case measure => simp [intOf]; omega
      | true =>
        have HE : Shut (R = u.who) := ⟨HYS.out hq⟩
        obtain ⟨r0, r1, r2⟩ := at_door H1.out HB3.out
        have HB9 := Shut.mk r2
        clear r2
        go_wp2_with fail
        refine leaves_cons (f := 57) (args := #[.pointer (some ⟨tb, 0, none⟩)]) (by simp) (by simp [go_sem]) ?_
        refine (Go.MuLone.unlock_deferred muLib ⟨tb, 0, none⟩ .returning _ r0 r1).mono ?_
        rintro e u' w'' ⟨rfl, rfl, rfl⟩
        exact ⟨_, results_tmp rfl _ _ _, by rw [HE.out]; rfl, HB9.out⟩
    · obtain rfl : n = k := by omega
      have HE : Shut (R = 0) := ⟨by
        rw [HQ.out]
        unfold holderX
        rw [lsIdx_none fun j hj => HG.out j hj (by have := HN.out; omega), if_neg (Nat.lt_irrefl _)]⟩
      obtain ⟨r0, r1, r2⟩ := at_door H1.out HW.out
      have HB9 := Shut.mk r2
      clear r2
      go_wp2_with fail
      refine leaves_cons (f := 57) (args := #[.pointer (some ⟨tb, 0, none⟩)]) (by simp) (by simp [go_sem]) ?_
      refine (Go.MuLone.unlock_deferred muLib ⟨tb, 0, none⟩ .returning _ r0 r1).mono ?_
      rintro e u' w'' ⟨rfl, rfl, rfl⟩
      exact ⟨_, results_tmp rfl _ _ _, by rw [HE.out]; rfl, HB9.out⟩
end Go.Proofs.Ytcnjjbgilpgceaa
/- OwC: A row of one's own beside stretches: its cells are set; it is made shorter, and longer within its room. -/
namespace Go.Proofs.Ytcnjjbgilpgceaa
set_option maxRecDepth 100000
open Go.RowKit

/-- A cell of a row of one's own is set. -/
theorem OwS.cell {w0 W : World} {S : List Str} {ty sz g n c : Nat} {L : List Value} (h : OwS w0 W S ty sz (.slice (some ⟨g, 0, none⟩) n c) n L) (j : Nat) (u : Value) : OwS w0 (W.setCell ⟨g, j, none⟩ u) S ty sz (.slice (some ⟨g, 0, none⟩) n c) n (L.set j u) := by
  have q := h.own.stored j u
  have e : (Value.slice (some ⟨g, 0, none⟩) n c).ownBlock = some g := rfl
  exact ⟨h.sl.grown q.2 fun k hk => by cases hk; exact ⟨(h.lt g e).1, h.far g e⟩, q.1, h.far⟩
theorem OwS.drew {w0 W : World} {S : List Str} {ty sz n : Nat} {v : Value} {L : List Value} (h : OwS w0 W S ty sz v n L) : OwS w0 W.drew S ty sz v n L := h.below (Below.drew (Below.refl _ _))
theorem OwS.sets {w0 : World} {S : List Str} {ty sz g n c : Nat} : ∀ (vs : List Value) (o : Nat) (W : World) (L : List Value), OwS w0 W S ty sz (.slice (some ⟨g, 0, none⟩) n c) n L → OwS w0 (W.setCells g o vs) S ty sz (.slice (some ⟨g, 0, none⟩) n c) n (setL L o vs)
  | [], _, _, _, h => h
  | v :: vs, o, _, _, h => OwS.sets vs (o + 1) _ _ (h.cell o v)
/-- What is behind it may be set. -/
theorem OwS.past {w0 : World} {S : List Str} {ty sz g n c : Nat} : ∀ (vs : List Value) (o : Nat) (W : World) (L : List Value), OwS w0 W S ty sz (.slice (some ⟨g, 0, none⟩) n c) n L → L.length ≤ o → OwS w0 (W.setCells g o vs) S ty sz (.slice (some ⟨g, 0, none⟩) n c) n L
  | [], _, _, _, h, _ => h
  | v :: vs, o, _, _, h, ho => by
    have h1 := h.cell o v
    rw [List.set_eq_of_length_le ho] at h1
    exact OwS.past vs (o + 1) _ _ h1 (by omega)
theorem OwS.shorter {w0 W : World} {S : List Str} {ty sz g n m c : Nat} {L : List Value} (h : OwS w0 W S ty sz (.slice (some ⟨g, 0, none⟩) n c) n L) (hm : m ≤ n) : OwS w0 W S ty sz (.slice (some ⟨g, 0, none⟩) m c) m (L.take (m * sz)) := by
  refine ⟨h.sl, ?_, h.far⟩
  obtain ⟨hL, h2⟩ := h.own
  rcases h2 with ⟨h', _⟩ | ⟨g', cap', cur, h', hb, hg, hnc, hcm, hcs, htake⟩
  · simp at h'
  · simp only [Value.slice.injEq, Option.some.injEq, Addr.mk.injEq, and_true, true_and] at h'
    obtain ⟨rfl, rfl⟩ := h'
    have hle : m * sz ≤ n * sz := Nat.mul_le_mul_right _ hm
    refine ⟨by rw [List.length_take, hL]; omega, .inr ⟨g, c, cur, rfl, hb, hg, by omega, hcm, hcs, ?_⟩⟩
    rw [← htake, List.take_take, Nat.min_eq_left hle]
/-- It is longer within its room: what comes behind is not known. -/
theorem OwS.longer {w0 W : World} {S : List Str} {ty sz g n m c : Nat} {L : List Value} (h : OwS w0 W S ty sz (.slice (some ⟨g, 0, none⟩) n c) n L) (hn : n ≤ m) (hm : m ≤ c) : ∃ R, OwS w0 W S ty sz (.slice (some ⟨g, 0, none⟩) m c) m (L ++ R) ∧ (L ++ R).length = m * sz := by
  obtain ⟨hL, h2⟩ := h.own
  rcases h2 with ⟨h', _⟩ | ⟨g', cap', cur, h', hb, hg, hnc, hcm, hcs, htake⟩
  · simp at h'
  · simp only [Value.slice.injEq, Option.some.injEq, Addr.mk.injEq, and_true, true_and] at h'
    obtain ⟨rfl, rfl⟩ := h'
    have hle : n * sz ≤ m * sz := Nat.mul_le_mul_right _ hn
    have hlc : m * sz ≤ c * sz := Nat.mul_le_mul_right _ hm
    have hcl : cur.toList.length = c * sz := by rw [Array.length_toList, hcs]
    have e : L ++ (cur.toList.take (m * sz)).drop (n * sz) = cur.toList.take (m * sz) := by
      conv => rhs; rw [← List.take_append_drop (n * sz) (cur.toList.take (m * sz))]
      rw [List.take_take, Nat.min_eq_left hle, htake]
    have hl : (cur.toList.take (m * sz)).length = m * sz := by rw [List.length_take, hcl]; omega
    exact ⟨(cur.toList.take (m * sz)).drop (n * sz), by rw [e]; exact ⟨h.sl, ⟨hl, .inr ⟨g, c, cur, rfl, hb, hg, hm, hcm, hcs, rfl⟩⟩, h.far⟩, by rw [e]; exact hl⟩
end Go.Proofs.Ytcnjjbgilpgceaa
/- LtD: The program's own table of leases: renewed; what is old is told. -/
namespace Go.Proofs.Ytcnjjbgilpgceaa
set_option maxRecDepth 100000
open Go.RowKit BigFrame
attribute [local go_sem ↓] Go.wp_at_zero Go.wp_at_succ

/-- The lock is given back at the door, the table stays. -/
theorem at_door2 {w0 wr : World} {tb : Nat} {v : Value} {n : Nat} {X : List Value} {S : List Str} (h : OwS w0 wr (tbS tb 1 v :: S) 35 3 v n X) : wr.cell? ⟨tb, 0, none⟩ = some (.int .i32 1) ∧ wr.frozen? ⟨tb, 0, none⟩ = false ∧ OwS w0 (wr.setCell ⟨tb, 0, none⟩ (.int .i32 0)) (tbS tb 0 v :: S) 35 3 v n X := by
  obtain ⟨q0, q1⟩ := h.sl.bx 0 rfl 0 _ rfl
  have q2 := h.put 0 rfl 0 (.int .i32 0) (by simp)
  simp only [List.set_cons_zero] at q2
  exact ⟨q0, q1, q2⟩
theorem seen_all (us : List LsM) (who now : Int) : (us.map fun f => if f.who = who then (⟨f.path, f.who, now⟩ : LsM) else f) = renewX us who now := rfl
set_option maxRecDepth 100000 in
set_option maxHeartbeats 4000000 in
theorem implRenewT {w0 W : World} {tb n : Nat} {v : Value} {us : List LsM} (h : OwS w0 W [tbS tb 0 v] 35 3 v n (lsS us)) (hn : n = us.length) (hl : n ≤ 3000000) (who now : Int) :
    Calls Try.prog 41 #[.pointer (some ⟨tb, 0, none⟩), .int .i64 who, .int .i64 now] W fun e W' => e = .returned (.tuple #[]) ∧ OwS w0 W' [tbS tb 0 v] 35 3 v n (lsS (renewX us who now)) := by
  obtain ⟨av, cv, rfl⟩ := own_row_slice h.own
  obtain ⟨x0, z0⟩ := h.sl.bx 0 rfl 0 _ rfl
  have HW1 := Shut.mk (h.put 0 rfl 0 (.int .i32 1) (by simp))
  simp only [List.set_cons_zero] at HW1
  have HN := Shut.mk hn
  clear h hn
  go_enter_defers Try.func41, Try.ntmps41
  go_upto_region 2 with (go_at_call 56; refine (Go.MuLone.lock_free muLib ⟨tb, 0, none⟩ _ x0 z0).mono ?_; rintro e w1 ⟨rfl, rfl⟩)
  refine wp_shade (fun V => OwS w0 V [tbS tb 1 (.slice av n cv)] 35 3 (.slice av n cv) n (lsS us)) HW1.out ?_
  intro W1 hW1
  have H := Shut.mk hW1
  have y2 := (H.out.sl.bx 0 rfl 2 _ rfl).1
  clear HW1 hW1 x0 z0
  go_wp2_with fail
  clear y2
  go_loopw [6, 19] (fun _ i wr => ∃ (k : Nat) (L : List LsM), i = .int .i64 k ∧ k ≤ n ∧ Shut (L = (us.take k).map (fun f => if f.who = who then ⟨f.path, f.who, now⟩ else f) ++ us.drop k) ∧ Shut (OwS w0 wr [tbS tb 1 (.slice av n cv)] 35 3 (.slice av n cv) n (lsS L))) (fun _ i _ => n - (intOf i).toNat)
  case atStart => exact ⟨0, us, rfl, Nat.zero_le _, ⟨by simp⟩, H⟩
  case round =>
    clear H
    obtain ⟨k, L, rfl, hk, HL, H⟩ := hrel
    have HLL : Shut (L.length = n) := ⟨by rw [HL.out, List.length_append, List.length_map, List.length_take, List.length_drop, ← HN.out]; omega⟩
    by_cases hlt : k < n
    · have hku : k < us.length := by rw [← HN.out]; exact hlt
      have hkl : k < L.length := by rw [HLL.out]; exact hlt
      obtain ⟨g, rfl, g1, g2, hw⟩ := frw_row (FRw.of_own H.out.own).1 hkl
      obtain ⟨p1, z1⟩ := hw.2 (k * 3 + 1) _ (flat_get lsC_len L k hkl 1 (by omega))
      obtain ⟨p2, z2⟩ := hw.2 (k * 3 + 2) _ (flat_get lsC_len L k hkl 2 (by omega))
      have eK : L[k] = us[k] := by
        have e : L[k]? = us[k]? := by rw [HL.out, List.getElem?_append_right (by simp; omega), List.length_map, List.length_take, Nat.min_eq_left (by omega), List.getElem?_drop]; congr 1; omega
        rw [List.getElem?_eq_getElem hkl, List.getElem?_eq_getElem hku] at e
        exact Option.some.inj e
      have HNX : Shut (L.set k (if us[k].who = who then ⟨us[k].path, us[k].who, now⟩ else us[k]) = (us.take (k + 1)).map (fun f => if f.who = who then ⟨f.path, f.who, now⟩ else f) ++ us.drop (k + 1)) := ⟨by
        rw [HL.out, List.set_append_right _ _ (by simp; omega), List.length_map, List.length_take, Nat.min_eq_left (by omega), Nat.sub_self, List.take_succ_eq_append_getElem hku, List.map_append, List.append_assoc, List.drop_eq_getElem_cons hku]
        rfl⟩
      have HT := Shut.mk (H.out.cell (k * 3 + 2) (.int .i64 now))
      rw [lss_seen L k hkl now, eK] at HT
      have HSM : Shut (L.set k us[k] = L) := ⟨by rw [← eK]; exact List.set_getElem_self hkl⟩
      rw [eK] at p1 p2
      obtain ⟨u, hu⟩ : ∃ u, u = us[k] := ⟨_, rfl⟩
      rw [← hu] at p1 p2 HNX HT HSM
      have k0 : (0 : Int) ≤ (k : Int) := by omega
      have k1 : (k : Int) < (n : Int) := by omega
      have y2 := (H.out.sl.bx 0 rfl 2 _ rfl).1
      clear eK hu hw g1 g2
      by_cases hwh : u.who = who
      · have hb : (u.who == who) = true := by simpa using hwh
        rw [if_pos hwh] at HNX
        clear hwh
        go_wp2_with fail
        go_roundw
        case rel => exact ⟨k + 1, _, by go_num, by omega, HNX, HT⟩
        case measure => simp [intOf]; omega
      · have hb : (u.who == who) = false := by simpa using hwh
        rw [if_neg hwh, HSM.out] at HNX
        clear hwh
        go_wp2_with fail
        go_roundw
        case rel => exact ⟨k + 1, _, by go_num, by omega, HNX, H⟩
        case measure => simp [intOf]; omega
    · obtain rfl : n = k := by omega
      have HE : Shut (L = renewX us who now) := ⟨by rw [HL.out, List.take_of_length_le (by have := HN.out; omega), List.drop_of_length_le (by have := HN.out; omega), List.append_nil]; rfl⟩
      obtain ⟨r0, r1, r2⟩ := at_door2 H.out
      rw [HE.out] at r2
      have HR := Shut.mk r2
      clear r2
      go_wp2_with fail
      refine leaves_cons (f := 57) (args := #[.pointer (some ⟨tb, 0, none⟩)]) (by simp) (by simp [go_sem]) ?_
      refine (Go.MuLone.unlock_deferred muLib ⟨tb, 0, none⟩ .returning _ r0 r1).mono ?_
      rintro e u' w'' ⟨rfl, rfl, rfl⟩
      exact ⟨_, results_none rfl _ _ _, rfl, HR.out⟩
set_option maxRecDepth 100000 in
set_option maxHeartbeats 4000000 in
theorem implExpiredT {w0 W : World} {tb n : Nat} {v : Value} {L : List LsM} (h : OwS w0 W [tbS tb 0 v] 35 3 v n (lsS L)) (hn : n = L.length) (hl : n ≤ 3000000) (hz : ∀ u ∈ L, u.path.size ≤ 1048576) (now : Int) :
    Calls Try.prog 43 #[.pointer (some ⟨tb, 0, none⟩), .int .i64 now] W fun e W' => TxPost (expiredX L now) w0 e W' := by
  obtain ⟨i0, hin, hz0, hz1, hz2⟩ := info_parts infoStr16
  obtain ⟨av, cv, rfl⟩ := own_row_slice h.own
  obtain ⟨x0, z0⟩ := h.sl.bx 0 rfl 0 _ rfl
  have HW1 := Shut.mk (h.put 0 rfl 0 (.int .i32 1) (by simp))
  simp only [List.set_cons_zero] at HW1
  have HN := Shut.mk hn
  have HZ := Shut.mk hz
  clear h hz hn
  go_enter_defers Try.func43, Try.ntmps43
  go_upto_region 3 with (go_at_call 56; refine (Go.MuLone.lock_free muLib ⟨tb, 0, none⟩ _ x0 z0).mono ?_; rintro e w1 ⟨rfl, rfl⟩)
  refine wp_shade (fun V => OwS w0 V [tbS tb 1 (.slice av n cv)] 35 3 (.slice av n cv) n (lsS L)) HW1.out ?_
  intro W1 hW1
  have H1 := Shut.mk hW1
  have HR1 := Shut.mk (FRw.of_own hW1.own).1.crow
  have ltb : tb < W1.heap.size := (hW1.sl.at 0 rfl).1
  have HO := Shut.mk (OwS.nil (ty := 9) (sz := 1) (SL.start W1))
  clear HW1 hW1 x0 z0
  have y2 := (H1.out.sl.bx 0 rfl 2 _ rfl).1
  go_wp2_with fail
  clear y2
  go_loopw [5, 20] (fun v9 i9 wr => ∃ (k m : Nat) (X : List ByteArray), i9 = .int .i64 k ∧ k ≤ n ∧ m ≤ k ∧ Shut (X = ((L.take k).filter (fun f => isOld f now)).map (·.path) ∧ m = X.length) ∧ Shut (OwS W1 wr [] 9 1 v9 m (tv X))) (fun _ i9 _ => n - (intOf i9).toNat)
  case atStart => exact ⟨0, 0, [], rfl, Nat.zero_le _, Nat.le_refl _, ⟨by simp⟩, HO⟩
  case round =>
    clear HO
    obtain ⟨k, m, X, rfl, hk, hm, HL, HW⟩ := hrel
    obtain ⟨av9, cv9, rfl⟩ := own_row_slice HW.out.own
    by_cases hlt : k < n
    · have hku : k < L.length := by rw [← HN.out]; exact hlt
      obtain ⟨b, off, x, rfl, hx, lb, hc⟩ := ls_at HR1.out HW.out.sl.bel hku
      obtain ⟨d0, d1, d2⟩ := hc wr (Below.refl _ _)
      have k0 : (0 : Int) ≤ (k : Int) := by omega
      have k1 : (k : Int) < (n : Int) := by omega
      have HUT : Shut (x.path.size ≤ 1048576) := ⟨by rw [hx]; exact HZ.out _ (List.getElem_mem hku)⟩
      have HNX : Shut (((L.take (k + 1)).filter (fun f => isOld f now)).map (·.path) = ((L.take k).filter (fun f => isOld f now)).map (·.path) ++ if isOld x now = true then [x.path] else []) := ⟨by rw [filter_take _ L k hku, ← hx, List.map_append]; congr 1; split <;> rfl⟩
      have HA := Shut.mk (fun W => implSeenAgo x 12 now W)
      have HAO : Shut (agoX x 12 now = isOld x now) := ⟨rfl⟩
      rw [HAO.out] at HA
      have HX := Shut.mk (HW.out.box #[.string x.path, .int .i64 x.who, .int .i64 x.seen] 35)
      obtain ⟨bb, hbb⟩ : ∃ q, q = wr.heap.size := ⟨_, rfl⟩
      rw [← hbb] at HX
      clear hc hx HAO
      go_upto_region 7 with fail
      refine wp_shade (fun W => OwS W1 W (bxS bb [.string x.path, .int .i64 x.who, .int .i64 x.seen] :: []) 9 1 (.slice av9 m cv9) m (tv X)) HX.out ?_
      intro W3 hW
      rw [← hbb]
      have H2 := Shut.mk hW
      clear hW HX hbb d0 d1 d2 HW
      have z0 := (H2.out.sl.bx 0 rfl 0 _ rfl).1
      have z1 := (H2.out.sl.bx 0 rfl 1 _ rfl).1
      have z2 := (H2.out.sl.bx 0 rfl 2 _ rfl).1
      cases hq : isOld x now with
      | false =>
        rw [hq] at HNX HA
        go_wp2_with (go_at_call 64; refine (HA.out _).mono ?_; rintro e w3 ⟨rfl, hb⟩; have H3 := Shut.mk (H2.out.below hb).tail; clear hb z0 z1 z2 H2)
        go_roundw
        case rel => exact ⟨k + 1, m, X, by go_num, by omega, by omega, ⟨by rw [HNX.out]; simpa using HL.out⟩, H3⟩
        case measure => simp [intOf]; omega
      | true =>
        rw [hq] at HNX HA
        go_upto_region 8 with (go_at_call 64; refine (HA.out _).mono ?_; rintro e w3 ⟨rfl, hb⟩; have H3 := Shut.mk (H2.out.below hb); have q0 := (H3.out.sl.bx 0 rfl 0 _ rfl).1; clear hb z0 z1 z2 H2)
        go_wp2_with (first
          | (go_at_call 61; refine (implClone x.path _ (by have := HUT.out; omega)).mono ?_; rintro e w4 ⟨rfl, hb⟩; have H4 := Shut.mk (H3.out.below hb).tail; clear hb q0 H3; have hown := H4.out.own; have hbs := H4.out.sl.bel.size)
          | (at_builtin; refine wpList_append_own_at _ rfl _ _ 32 rfl W1.heap.size 9 i0 _ 1 16 Try.underlying32 hin hz0 hz1 hz2 rfl (by decide) _ _ _ rfl (hown.alloc _) ⟨w4.heap.size, 0, none⟩ 1 1 [.string x.path] rfl rfl (World.news_of_block (cs := #[.string x.path]) (t := 9) (fr := (0, 0)) (heap_alloc_new w4 _)) ?c25 ?c35 ?c45 ?c55 ?_))
        case c25 => simp [Value.oneCell']
        case c35 => unfold maxLen; omega
        case c45 => omega
        case c55 => first | omega | (simp; omega)
        intro v5 w5 ho hg _ hat
        have HL5 := Shut.mk (H4.out.more ((Below.refl _ _).alloc (Nat.le_refl _) _) ho hg (by simpa using hat))
        clear ho hg hat hown hbs
        go_wp2_with fail
        go_roundw
        case rel => exact ⟨k + 1, m + 1, X ++ [x.path], by go_num, by omega, by omega, ⟨⟨by rw [HNX.out]; simp only [if_true]; rw [← HL.out.1], by rw [List.length_append, ← HL.out.2]; rfl⟩⟩, ⟨by rw [show tv (X ++ [x.path]) = tv X ++ [.string x.path] by simp [tv]]; exact HL5.out⟩⟩
        case measure => simp [intOf]; omega
    · obtain rfl : n = k := by omega
      have HE : Shut (expiredX L now = X) := ⟨by
        have := HL.out.1
        rw [List.take_of_length_le (by have := HN.out; omega)] at this
        exact this.symm⟩
      obtain ⟨r0, r1, r2⟩ := at_door H1.out HW.out.sl.bel
      obtain ⟨a8, c8, e8, hf8, hc8⟩ := HW.out.frw
      obtain ⟨rfl, rfl⟩ : av9 = a8 ∧ cv9 = c8 := by simpa using e8
      have HF := Shut.mk (rwS.loc av9 (tv X) W1.heap.size wr.heap.size wr (wr.setCell ⟨tb, 0, none⟩ (.int .i32 0)) tb (tb + 1) hf8 (Turned.of_grown (gb_set' wr tb 0 _) (Nat.le_refl _) (Nat.lt_succ_self _)) (.inr ltb))
      have HB := Shut.mk r2
      clear hf8 e8 r2
      go_wp2_with fail
      refine leaves_cons (f := 57) (args := #[.pointer (some ⟨tb, 0, none⟩)]) (by simp) (by simp [go_sem]) ?_
      refine (Go.MuLone.unlock_deferred muLib ⟨tb, 0, none⟩ .returning _ r0 r1).mono ?_
      rintro e u' w'' ⟨rfl, rfl, rfl⟩
      rw [HE.out]
      exact ⟨_, results_tmp rfl _ _ _, av9, cv9, by rw [← HL.out.2]; rfl, frw_wide9 HF.out H1.out.sl.bel.size (by simp [World.setCell]), by rw [← HL.out.2]; exact hc8, HB.out⟩
end Go.Proofs.Ytcnjjbgilpgceaa
/- LeL: How many leases there are behind a call; plain. -/
namespace Go.Proofs.Ytcnjjbgilpgceaa
set_option maxRecDepth 100000
open Go.RowKit

theorem renewX_len (L : List LsM) (who now : Int) : (renewX L who now).length = L.length := List.length_map ..
theorem dropX9_len (L : List LsM) (p : ByteArray) : (dropX9 L p).length ≤ L.length := List.length_filter_le ..
theorem expiredX_len (L : List LsM) (now : Int) : (expiredX L now).length ≤ L.length := by unfold expiredX; rw [List.length_map]; exact List.length_filter_le ..
theorem takeX_len (L : List LsM) (p : ByteArray) (who now : Int) : (takeX L p who now).1.length ≤ 2 * L.length + 1 := by
  have l1 := List.length_filter_le (fun f : LsM => lt9 f.path p) L
  have l2 := List.length_filter_le (fun f : LsM => !(lt9 f.path p) && !(f.path.toList == p.toList)) L
  unfold takeX
  split
  · split
    · split
      · show L.length ≤ _; omega
      · show (L.set _ _).length ≤ _; rw [List.length_set]; omega
    · split
      · show L.length ≤ _; omega
      · show (lsLow L p ++ [_] ++ lsHigh L p).length ≤ _
        unfold lsLow lsHigh
        simp only [List.length_append, List.length_singleton]
        omega
  · show L.length ≤ _; omega
theorem ls_small {L : List LsM} (h : lsSum L ≤ 1048576) : ∀ u ∈ L, u.path.size ≤ 1048576 := fun u hu => by have := lsSum_mem hu; omega
end Go.Proofs.Ytcnjjbgilpgceaa
/- LtT: The program's own RenewLeases, Expired, HolderOf. -/
namespace Go.Proofs.Ytcnjjbgilpgceaa
set_option maxRecDepth 100000
open Go.RowKit BigFrame
attribute [local go_sem ↓] Go.wp_at_zero Go.wp_at_succ

set_option maxRecDepth 100000 in
theorem implHolderOf (us : List LsM) (a : Option Addr) (cap : Nat) (p : ByteArray) (w : World) (hr : LsRow w a us) (hl : us.length ≤ 1048576) (_ : lsSum us ≤ 1048576) (_ : p.size ≤ 1048576) :
    Calls Try.prog 17 #[.slice a us.length cap, .string p] w fun e w' => e = .returned (.int .i64 (holderX us p)) ∧ Below w.heap.size w w' := by
  have HT := Shut.mk (implTableOf us a cap w hr hl)
  obtain ⟨n, hn⟩ : ∃ n, n = us.length := ⟨_, rfl⟩
  have HN := Shut.mk hn
  rw [← hn] at HT hl ⊢
  clear hr hn
  go_enter Try.func17, Try.ntmps17
  go_wp2_with (first
    | (go_at_call 38; refine HT.out.mono ?_; rintro e w1 ⟨tb, v, rfl, ho⟩; have HO := Shut.mk ho; clear ho)
    | (go_at_call 44; refine (implHolder HO.out HN.out (by omega) p).mono ?_; rintro e w2 ⟨rfl, hb⟩; have HB := Shut.mk hb; clear hb))
  go_ret
  exact ⟨rfl, HB.out⟩
set_option maxRecDepth 100000 in
theorem implExpired (us : List LsM) (a : Option Addr) (cap : Nat) (now : Int) (w : World) (hr : LsRow w a us) (hl : us.length ≤ 1048576) (hz : lsSum us ≤ 1048576) (_ : -9223372036854775808 ≤ now ∧ now ≤ 9223372036854775807) :
    Calls Try.prog 16 #[.slice a us.length cap, .int .i64 now] w fun e w' => TxPost (expiredX us now) w e w' := by
  have HT := Shut.mk (implTableOf us a cap w hr hl)
  have HZ := Shut.mk (ls_small hz)
  obtain ⟨n, hn⟩ : ∃ n, n = us.length := ⟨_, rfl⟩
  have HN := Shut.mk hn
  rw [← hn] at HT hl ⊢
  clear hr hn hz
  go_enter Try.func16, Try.ntmps16
  go_wp2_with (first
    | (go_at_call 38; refine HT.out.mono ?_; rintro e w1 ⟨tb, v, rfl, ho⟩; have HO := Shut.mk ho; clear ho)
    | (go_at_call 43; refine (implExpiredT HO.out HN.out (by omega) HZ.out now).mono ?_; rintro e w2 ⟨a2, c2, rfl, hp⟩; have HP := Shut.mk hp; clear hp))
  go_ret
  exact ⟨a2, c2, rfl, HP.out⟩
set_option maxRecDepth 100000 in
theorem implRenew (us : List LsM) (a : Option Addr) (cap : Nat) (who now : Int) (w : World) (hr : LsRow w a us) (hl : us.length ≤ 1048576) (hz : lsSum us ≤ 1048576) (_ : -9223372036854775808 ≤ who ∧ who ≤ 9223372036854775807) (_ : -9223372036854775808 ≤ now ∧ now ≤ 9223372036854775807) :
    Calls Try.prog 14 #[.slice a us.length cap, .int .i64 who, .int .i64 now] w fun e w' => LsPost (renewX us who now) w e w' := by
  have HT := Shut.mk (implTableOf us a cap w hr hl)
  have HZ : Shut (∀ u ∈ renewX us who now, u.path.size ≤ 1048576) := ⟨fun u hu => by
    obtain ⟨f, hf, rfl⟩ := List.mem_map.1 hu
    have := ls_small hz f hf
    split <;> exact this⟩
  obtain ⟨n, hn⟩ : ∃ n, n = us.length := ⟨_, rfl⟩
  have HN := Shut.mk hn
  have HN2 : Shut (n = (renewX us who now).length) := ⟨by rw [renewX_len]; exact hn⟩
  rw [← hn] at HT hl ⊢
  clear hr hn hz
  go_enter Try.func14, Try.ntmps14
  go_wp2_with (first
    | (go_at_call 38; refine HT.out.mono ?_; rintro e w1 ⟨tb, v, rfl, ho⟩; have HO := Shut.mk ho; clear ho)
    | (go_at_call 41; refine (implRenewT HO.out HN.out (by omega) who now).mono ?_; rintro e w2 ⟨rfl, ho⟩; have HO2 := Shut.mk ho; clear ho)
    | (go_at_call 40; refine (implTold HO2.out HN2.out (by omega) HZ.out).mono ?_; rintro e w3 ⟨a3, c3, rfl, hp⟩; have HP := Shut.mk hp; clear hp))
  go_ret
  exact ⟨a3, c3, rfl, HP.out⟩
end Go.Proofs.Ytcnjjbgilpgceaa
