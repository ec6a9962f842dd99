/- Texts of ours, laid one behind the other: GrwG, LtG, OpenM, LsAo, SpO, SpR. -/
import Derived.Test.YtcnjjbgilpgceaaPl7
import Derived.Deep.Slices
import Derived.Deep.Strs
import Derived.ChangeArms
import Derived.ChangeSame
import Derived.WideShapes
import Derived.OpenShut
import Derived.Deep.AppendLies
/- GrwG: A region that draws its order: as GrwD, over any way in which later worlds may be told (written by gen/mkgrwg.py). -/
namespace Go.Proofs.Ytcnjjbgilpgceaa
set_option maxRecDepth 100000
open Go.RowKit
section
variable {R : World → World → Prop} {P : Program} {ops : Array Oper} {Q : Exit → Act → World → Prop} {md : Region.Mode} {tl : Nat → Bool}
/-- Whatever order is picked from here on, in whatever later world, until only the last ones are left. -/
def wpE (R : World → World → Prop) (P : Program) (md : Region.Mode) (ops : Array Oper) (Q : Exit → Act → World → Prop) (tl : Nat → Bool) : Nat → Array Bool → Act → World → Prop
  | 0, l, a, w => ∀ x, R w x → wpAny P md ops Q 0 l a x
  | n + 1, l, a, w => (tailedD tl ops l = true ∧ ∀ x, R w x → wpAny P md ops Q (n + 1) l a x) ∨ (∀ x, R w x → (Region.ready md ops l = [] → Q .normal a x) ∧
      ∀ i ∈ Region.ready md ops l, wpOp P ops Q i (fun a' y => R x y ∧ wpE R P md ops Q tl n (l.setIfInBounds i true) a' y) a x)
theorem wpE_later (HR : Pre9 R) : ∀ (n : Nat) (l : Array Bool) (a : Act) (w y : World), R w y → wpE R P md ops Q tl n l a w → wpE R P md ops Q tl n l a y
  | 0, _, _, _, _, hy, h => fun x hx => h x (HR.2 hy hx)
  | _ + 1, _, _, _, _, hy, h => h.imp (fun q => ⟨q.1, fun x hx => q.2 x (HR.2 hy hx)⟩) (fun q x hx => q x (HR.2 hy hx))
theorem wpAny_of_E (HR : Pre9 R) : ∀ (n : Nat) (l : Array Bool) (a : Act) (w : World), wpE R P md ops Q tl n l a w → wpAny P md ops Q n l a w
  | 0, _, _, w, h => h w (HR.1 w)
  | n + 1, _, _, w, h => by
    rcases h with h | h
    · exact h.2 w (HR.1 w)
    · exact ⟨(h w (HR.1 w)).1, fun i hi => wpOp_mono (fun a' y hh => wpAny_of_E HR n _ a' y hh.2) ((h w (HR.1 w)).2 i hi)⟩
theorem wpE_first (HR : Pre9 R) {i : Nat} {oi : Oper} {v : Value} {C : List Nat} (hi : ops[i]? = some oi) (hsel : ∀ (j : Nat) (o : Oper) cs b, ops[j]? = some o → o.op ≠ .select cs b) (hQ : ∀ c a w, Q (.panic c) (a.put oi.dst v) w → Q (.panic c) a w) :
    ∀ (n : Nat) (l : Array Bool) (a : Act) (w : World), waitsD md tl ops l i C = true → (∀ j oj, ops[j]? = some oj → j ≠ i → l.getD j true = false → (∀ e ∈ oj.after, Region.binds md e = true → e.on ≠ i) → oi.apart ops oj = true) →
      i ∈ Region.ready md ops l → YR R P ops oi v a w → wpE R P md ops Q tl n (l.setIfInBounds i true) (a.put oi.dst v) w → wpE R P md ops Q tl (n + 1) l a w := by
  intro n
  induction n with
  | zero =>
    intro l a w _ _ hr hy H
    refine .inr fun x hx => ⟨fun h => (by rw [h] at hr; cases hr), fun j hj => ?_⟩
    by_cases hji : j = i
    · subst hji
      exact hy.op HR hi hx fun y hxy => ⟨hxy, wpE_later HR 0 _ _ _ _ (HR.2 hx hxy) H⟩
    · have q := ready_mono hj hji
      rw [(H w (HR.1 w)).1] at q
      cases q
  | succ n ih =>
    intro l a w hwt hfree hr hy H
    refine .inr fun x hx => ⟨fun h => (by rw [h] at hr; cases hr), fun j hj => ?_⟩
    by_cases hji : j = i
    · subst hji
      exact hy.op HR hi hx fun y hxy => ⟨hxy, wpE_later HR (n + 1) _ _ _ _ (HR.2 hx hxy) H⟩
    · obtain ⟨hun, oj, hoj, -⟩ := mem_ready.1 hj
      have hjC : j ∉ C := fun hc => waitsD_spec hwt (mem_ready.1 hr).1 j hc hj
      rcases H with H | H
      · have hju : (l.setIfInBounds i true).getD j true = false := by rw [getD_set_ne true (Ne.symm hji)]; exact hun
        have hjs := (Array.getElem?_eq_some_iff.1 hoj).1
        have hjm := tailedD_spec H.1 hju hjs
        exact absurd (waitsD_last hwt hjm hun hjs) hjC
      · have q := op_besideR hoj (hfree j oj hoj hji hun (ready_free hr hj hoj)) (fun cs b => hsel i oi cs b hi) (fun cs b => hsel j oj cs b hoj) hQ hy ((H x hx).2 j (ready_mono hj hji))
        refine wpOp_mono (fun b y hb => ⟨hb.2.1, ih (l.setIfInBounds j true) b y (waitsD_step hwt hjC) (fun k ok hk hki hku hno => hfree k ok hk hki ?_ hno) (ready_mono hr (Ne.symm hji)) (hb.1.later HR (HR.2 hx hb.2.1)) ?_⟩) q
        · by_cases hjk : j = k
          · subst hjk; exact hun
          · rw [getD_set_ne true hjk] at hku; exact hku
        · rw [Array.setIfInBounds_comm _ _ hji]
          exact hb.2.2
theorem wpE_tail {l : Array Bool} {a : Act} {w : World} (ht : tailedD tl ops l = true) : ∀ {n : Nat}, (∀ x, R w x → wpAny P md ops Q n l a x) → wpE R P md ops Q tl n l a w
  | 0, h => h
  | _ + 1, h => .inl ⟨ht, h⟩
theorem wpE_done {l : Array Bool} {a : Act} {w : World} (hr : Region.ready md ops l = []) (h : ∀ x, R w x → Q .normal a x) : ∀ n, wpE R P md ops Q tl n l a w
  | 0 => fun x hx => ⟨hr, h x hx⟩
  | _ + 1 => .inr fun x hx => ⟨fun _ => h x hx, by rw [hr]; simp⟩
theorem wp_region_E (R : World → World → Prop) (HR : Pre9 R) {id : Nat} {a : Act} {w : World} (tl : Nat → Bool) (hm : P.follows .mixedOrders = true) (h : wpE R P .any ops Q tl ops.size (Array.replicate ops.size false) a w.drew) : (Code.region id ops true).wp P Q a w :=
  wp_region_any hm (wpAny_of_E HR _ _ _ _ h)
end
section
variable {R : World → World → Prop} {P : Program} {Q : Exit → Act → World → Prop} {md : Region.Mode} {tl : Nat → Bool}
/-- Take number i: a value. -/
theorem wpE_val (HR : Pre9 R) {L r : List Oper} {i : Nat} {oi : Oper} {v : Value} {n : Nat} {l : Array Bool} {a : Act} {w : World} (hi : L.drop i = oi :: r) (hs : Region.noSelect L.toArray = true) (hf : Region.free md L.toArray l i = true) (hr : (Region.ready md L.toArray l).contains i = true) (ht : waitsD md tl L.toArray l i (clo md L.toArray l i) = true)
    (hQ : ∀ c a w, Q (.panic c) (a.put oi.dst v) w → Q (.panic c) a w) (hw : Region.wanted oi (yielded L.toArray a.tmps) = true) (hy : ∀ x, R w x → (execOp a.eval oi).run P x = .ok (.value v) x)
    (h : wpE R P md L.toArray Q tl n (l.setIfInBounds i true) (a.put oi.dst v) w) : wpE R P md L.toArray Q tl (n + 1) l a w :=
  wpE_first HR (at_drop hi) (Region.noSelect_spec hs) hQ n l a w ht (Region.free_spec (at_drop hi) hf) (by simpa using hr) (Or.inl ⟨hw, fun x hx => by unfold Oper.quietAt; rw [hy x hx]; exact ⟨rfl, rfl⟩⟩) h
/-- Take number i: a call. -/
theorem wpE_call (HR : Pre9 R) {L r : List Oper} {i : Nat} {oi : Oper} {v : Value} {f : FuncId} {args : Array Value} {n : Nat} {l : Array Bool} {a : Act} {w : World} (hi : L.drop i = oi :: r) (hs : Region.noSelect L.toArray = true) (hf : Region.free md L.toArray l i = true) (hr : (Region.ready md L.toArray l).contains i = true) (ht : waitsD md tl L.toArray l i (clo md L.toArray l i) = true)
    (hQ : ∀ c a w, Q (.panic c) (a.put oi.dst v) w → Q (.panic c) a w) (hw : Region.wanted oi (yielded L.toArray a.tmps) = true) (hy : ∀ x, R w x → (execOp a.eval oi).run P x = .ok (.enter f args) x)
    (hc : ∀ x, R w x → Calls P f args x fun e y => e = .returned v ∧ R x y)
    (h : wpE R P md L.toArray Q tl n (l.setIfInBounds i true) (a.put oi.dst v) w) : wpE R P md L.toArray Q tl (n + 1) l a w :=
  wpE_first HR (at_drop hi) (Region.noSelect_spec hs) hQ n l a w ht (Region.free_spec (at_drop hi) hf) (by simpa using hr) (Or.inl ⟨hw, fun x hx => by unfold Oper.quietAt; rw [hy x hx]; exact ⟨rfl, hc x hx⟩⟩) h
/-- Take number i: it is not wanted. -/
theorem wpE_skip (HR : Pre9 R) {L r : List Oper} {i : Nat} {oi : Oper} {n : Nat} {l : Array Bool} {a : Act} {w : World} (hi : L.drop i = oi :: r) (hs : Region.noSelect L.toArray = true) (hf : Region.free md L.toArray l i = true) (hr : (Region.ready md L.toArray l).contains i = true) (ht : waitsD md tl L.toArray l i (clo md L.toArray l i) = true)
    (hQ : ∀ c a w, Q (.panic c) (a.put oi.dst undef) w → Q (.panic c) a w) (hw : Region.wanted oi (yielded L.toArray a.tmps) = false)
    (h : wpE R P md L.toArray Q tl n (l.setIfInBounds i true) (a.put oi.dst undef) w) : wpE R P md L.toArray Q tl (n + 1) l a w :=
  wpE_first HR (at_drop hi) (Region.noSelect_spec hs) hQ n l a w ht (Region.free_spec (at_drop hi) hf) (by simpa using hr) (Or.inr ⟨hw, rfl⟩) h
/-- One alone may come up, and answers a value; memory may be made. -/
theorem wpE_one {L r : List Oper} {i : Nat} {oi : Oper} {n : Nat} {l : Array Bool} {a : Act} {w : World} (hr : Region.ready md L.toArray l = [i]) (hi : L.drop i = oi :: r) (hw : Region.wanted oi (yielded L.toArray a.tmps) = true)
    (h : ∀ x, R w x → ∃ (v : Value) (y : World), (execOp a.eval oi).run P x = .ok (.value v) y ∧ R x y ∧ wpE R P md L.toArray Q tl n (l.setIfInBounds i true) (a.put oi.dst v) y) : wpE R P md L.toArray Q tl (n + 1) l a w := by
  refine .inr fun x hx => ?_
  rw [hr]
  refine ⟨fun h => (by cases h), fun j hj => ?_⟩
  rw [List.mem_singleton] at hj
  subst hj
  obtain ⟨v, y, h1, h2, h3⟩ := h x hx
  unfold wpOp
  rw [at_drop hi]
  dsimp only
  rw [if_pos hw]
  refine Or.inl ?_
  unfold Oper.wp
  rw [h1]
  exact ⟨h2, h3⟩
/-- One alone may come up: a call that answers what it likes and only makes memory. -/
theorem wpE_onecall {L r : List Oper} {i : Nat} {oi : Oper} {f : FuncId} {args : Array Value} {n : Nat} {l : Array Bool} {a : Act} {w : World} (hr : Region.ready md L.toArray l = [i]) (hi : L.drop i = oi :: r) (hw : Region.wanted oi (yielded L.toArray a.tmps) = true)
    (hy : ∀ x, R w x → (execOp a.eval oi).run P x = .ok (.enter f args) x)
    (h : ∀ x, R w x → Calls P f args x fun e y => ∃ v, e = .returned v ∧ R x y ∧ wpE R P md L.toArray Q tl n (l.setIfInBounds i true) (a.put oi.dst v) y) : wpE R P md L.toArray Q tl (n + 1) l a w := by
  refine .inr fun x hx => ?_
  rw [hr]
  refine ⟨fun h => (by cases h), fun j hj => ?_⟩
  rw [List.mem_singleton] at hj
  subst hj
  unfold wpOp
  rw [at_drop hi]
  dsimp only
  rw [if_pos hw]
  refine Or.inl ?_
  unfold Oper.wp
  rw [hy x hx]
  exact (h x hx).mono (by rintro e y ⟨v, rfl, h1, h2⟩; exact ⟨h1, h2⟩)
/-- One of the last ones that is a value in every world is taken first. -/
theorem wpE_purely (HR : Pre9 R) {ops : Array Oper} {i : Nat} {oi : Oper} {v : Value} (hi : ops[i]? = some oi) (hti : tl i = true) (hsel : ∀ (j : Nat) (o : Oper) cs b, ops[j]? = some o → o.op ≠ .select cs b) (hQ : ∀ c a w, Q (.panic c) (a.put oi.dst v) w → Q (.panic c) a w) :
    ∀ (n : Nat) (l : Array Bool) (a : Act) (w : World), (∀ j oj, ops[j]? = some oj → j ≠ i → l.getD j true = false → (∀ e ∈ oj.after, Region.binds md e = true → e.on ≠ i) → oi.apart ops oj = true) →
      i ∈ Region.ready md ops l → Region.wanted oi (yielded ops a.tmps) = true → (∀ x, (execOp a.eval oi).run P x = .ok (.value v) x) → wpE R P md ops Q tl n (l.setIfInBounds i true) (a.put oi.dst v) w → wpE R P md ops Q tl (n + 1) l a w := by
  have htail : ∀ {l : Array Bool}, tailedD tl ops (l.setIfInBounds i true) = true → tailedD tl ops l = true := fun {l} h => by
    unfold tailedD at h ⊢
    refine List.all_eq_true.2 fun j hj => ?_
    by_cases e : i = j
    · subst e
      rw [hti, Bool.or_true]
    · have := List.all_eq_true.1 h j hj
      rw [getD_set_ne true e] at this
      exact this
  intro n
  induction n with
  | zero =>
    intro l a w _ hr hw hy H
    refine .inr fun x hx => ⟨fun h => (by rw [h] at hr; cases hr), fun j hj => ?_⟩
    by_cases hji : j = i
    · subst hji
      have hyl : YR R P ops oi v a w := Or.inl ⟨hw, fun x _ => by unfold Oper.quietAt; rw [hy x]; exact ⟨rfl, rfl⟩⟩
      exact hyl.op HR hi hx fun y hxy => ⟨hxy, wpE_later HR 0 _ _ _ _ (HR.2 hx hxy) H⟩
    · have q := ready_mono hj hji
      rw [(H w (HR.1 w)).1] at q
      cases q
  | succ n ih =>
    intro l a w hfree hr hw hy H
    rcases H with H | H
    · exact .inl ⟨htail H.1, fun x hx => wpA_first hi hsel hQ _ l a x hfree hr hw hy (H.2 x hx)⟩
    · have hyl : YR R P ops oi v a w := Or.inl ⟨hw, fun x _ => by unfold Oper.quietAt; rw [hy x]; exact ⟨rfl, rfl⟩⟩
      refine .inr fun x hx => ⟨fun h => (by rw [h] at hr; cases hr), fun j hj => ?_⟩
      by_cases hji : j = i
      · subst hji
        exact hyl.op HR hi hx fun y hxy => ⟨hxy, wpE_later HR (n + 1) _ _ _ _ (HR.2 hx hxy) (.inr H)⟩
      · obtain ⟨hun, oj, hoj, -⟩ := mem_ready.1 hj
        have hap := hfree j oj hoj hji hun (ready_free hr hj hoj)
        have h3 := (Oper.apart_spec hap).2.2
        have q := op_frame hoj (wpOp_putIf (S := fun _ => False) hoj hap (fun cs b => hsel i oi cs b hi) (fun cs b => hsel j oj cs b hoj) hQ (Or.inl ⟨hw, fun _ hf => hf.elim⟩) ((H x hx).2 j (ready_mono hj hji)))
        refine wpOp_mono ?_ q
        have step : ∀ (b : Act) (y : World), R x y → execOp b.eval oi = execOp a.eval oi → Region.wanted oi (yielded ops b.tmps) = Region.wanted oi (yielded ops a.tmps) → wpE R P md ops Q tl n ((l.setIfInBounds i true).setIfInBounds j true) (b.put oi.dst v) y → R x y ∧ wpE R P md ops Q tl (n + 1) (l.setIfInBounds j true) b y := fun b y hl e1 e2 hk => by
          refine ⟨hl, ih (l.setIfInBounds j true) b y (fun k ok hk hki hku hno => hfree k ok hk hki ?_ hno) (ready_mono hr (Ne.symm hji)) (by rw [e2]; exact hw) (fun x => by rw [e1]; exact hy x) ?_⟩
          · by_cases hjk : j = k
            · subst hjk; exact hun
            · rw [getD_set_ne true hjk] at hku; exact hku
          · rw [Array.setIfInBounds_comm _ _ hji]
            exact hk
        rintro b y ⟨⟨u, rfl | ⟨f, rfl⟩⟩, -, hl, hk⟩
        · exact step _ _ hl (execOp_put oi (fun cs b => hsel i oi cs b hi) a oj.dst u h3) (wanted_put oi a oj.dst u h3) hk
        · exact step _ _ hl (execOp_put oi (fun cs b => hsel i oi cs b hi) { a with defers := f :: a.defers } oj.dst u h3) (wanted_put oi { a with defers := f :: a.defers } oj.dst u h3) hk
theorem wpE_pure (HR : Pre9 R) {L r : List Oper} {i : Nat} {oi : Oper} {v : Value} {n : Nat} {l : Array Bool} {a : Act} {w : World} (hi : L.drop i = oi :: r) (hti : tl i = true) (hs : Region.noSelect L.toArray = true) (hf : Region.free md L.toArray l i = true) (hr : (Region.ready md L.toArray l).contains i = true)
    (hQ : ∀ c a w, Q (.panic c) (a.put oi.dst v) w → Q (.panic c) a w) (hw : Region.wanted oi (yielded L.toArray a.tmps) = true) (hy : ∀ x, (execOp a.eval oi).run P x = .ok (.value v) x)
    (h : wpE R P md L.toArray Q tl n (l.setIfInBounds i true) (a.put oi.dst v) w) : wpE R P md L.toArray Q tl (n + 1) l a w :=
  wpE_purely HR (at_drop hi) hti (Region.noSelect_spec hs) hQ n l a w (Region.free_spec (at_drop hi) hf) (by simpa using hr) hw hy h
end
end Go.Proofs.Ytcnjjbgilpgceaa
/- LtG: The program's own TakeLease (written by gen/mkltg.py). -/
namespace Go.Proofs.Ytcnjjbgilpgceaa
set_option maxRecDepth 100000
open Go.RowKit BigFrame
attribute [local go_sem ↓] Go.wp_at_zero Go.wp_at_succ

/-- A region that does not panic, in a function that defers. -/
theorem wp_region_calm {P : Program} {id : Nat} {ops : Array Oper} {dr : Bool} {Q : Exit → Act → World → Prop} {a : Act} {w : World} (h : (Code.region id ops dr).wp P (fun e b y => e = .normal ∧ Q .normal b y) a w) : (Code.region id ops dr).wp P Q a w :=
  Code.wp_mono (fun e b y h => by obtain ⟨rfl, h⟩ := h; exact h) h
theorem calm_no {c : List PanicEntry} {X Y : Prop} (h : Exit.panic c = .normal ∧ X) : Exit.panic c = .normal ∧ Y := by cases h.1
/-- What take leaves: whether it was taken; the table. -/
def TkPost (w0 : World) (tb : Nat) (R : List LsM × Bool) (e : Ending) (w' : World) : Prop := e = .returned (.bool R.2) ∧ ∃ v' m, OwS w0 w' [tbS tb 0 v'] 35 3 v' m (lsS R.1) ∧ m = R.1.length
theorem TkPost.mk {w0 : World} {tb : Nat} {R : List LsM × Bool} {e : Ending} {w' : World} {v : Value} {m : Nat} (h1 : e = .returned (.bool R.2)) (h2 : OwS w0 w' [tbS tb 0 v] 35 3 v m (lsS R.1)) (h3 : m = R.1.length) : TkPost w0 tb R e w' := ⟨h1, v, m, h2, h3⟩
theorem take_ok (L : List LsM) (p : ByteArray) (who now : Int) : takeOk L p who now = (leasesOk L && lsOne ⟨p, who, now⟩) := by
  unfold takeOk lsOne
  simp [Bool.and_assoc]
set_option maxRecDepth 100000 in
set_option maxHeartbeats 8000000 in
theorem implTakeT {w0 W : World} {tb n : Nat} {v : Value} {L : List LsM} (h : OwS w0 W [tbS tb 0 v] 35 3 v n (lsS L)) (hn : n = L.length) (hl : n ≤ 1048576) (hz : ∀ u ∈ L, u.path.size ≤ 1048576) (p : ByteArray) (who now : Int) (hp : p.size ≤ 1048576) :
    Calls Try.prog 39 #[.pointer (some ⟨tb, 0, none⟩), lsv ⟨p, who, now⟩] W fun e W' => TkPost w0 tb (takeX L p who now) e W' := by
  obtain ⟨av, cv, rfl⟩ := own_row_slice h.own
  have HN := Shut.mk hn
  have HX := Shut.mk (h.box #[.string p, .int .i64 who, .int .i64 now] 35)
  have HLO : Shut (∀ V a, LsRow V a L → Calls Try.prog 18 #[.slice a n cv] V fun e w' => e = .returned (.bool (leasesOk L)) ∧ Below V.heap.size V w') := ⟨fun V a hr => by rw [hn]; exact implLeasesOk L a cv V hr (by omega) hz⟩
  have HL1 := Shut.mk (fun V => implLeaseOk ⟨p, who, now⟩ V hp)
  have HTK := Shut.mk (take_ok L p who now)
  have HUP : Shut (leasesOk L = true → UpL L ∧ n ≤ 8) := ⟨fun h => ⟨upl_of_ok h, by have := leasesOk_len h; omega⟩⟩
  have HTI := Shut.mk (take_is (L := L) p who now)
  have HNO : Shut (takeOk L p who now = false → takeX L p who now = (L, false)) := ⟨fun h => by unfold takeX; rw [h]; rfl⟩
  obtain ⟨RR, hRR⟩ : ∃ q, q = takeX L p who now := ⟨_, rfl⟩
  rw [← hRR] at HTI HNO ⊢
  obtain ⟨lo, hlo⟩ : ∃ q, q = leasesOk L := ⟨_, rfl⟩
  obtain ⟨l1, hl1⟩ : ∃ q, q = lsOne ⟨p, who, now⟩ := ⟨_, rfl⟩
  rw [← hlo] at HLO HTK HUP
  rw [← hl1] at HL1 HTK
  rw [HTK.out] at HTI HNO
  obtain ⟨xb, hxb⟩ : ∃ q, q = W.heap.size := ⟨_, rfl⟩
  rw [← hxb] at HX
  clear h hn hz hp hRR hlo hl1 HTK
  go_enter_defers Try.func39, Try.ntmps39
  go_upto_region 1 with fail
  refine wp_shade (fun V => OwS w0 V [bxS xb [.string p, .int .i64 who, .int .i64 now], tbS tb 0 (.slice av n cv)] 35 3 (.slice av n cv) n (lsS L)) HX.out ?_
  intro V0 hV0
  rw [← hxb]
  obtain ⟨x0, z0⟩ := hV0.sl.bx 1 rfl 0 _ rfl
  have HW1 := Shut.mk (hV0.put 1 rfl 0 (.int .i32 1) (by simp))
  simp only [List.set_cons_zero, List.set_cons_succ] at HW1
  clear hV0 hxb HX
  go_upto_region 3 with (go_at_call 56; refine (Go.MuLone.lock_free muLib ⟨tb, 0, none⟩ _ x0 z0).mono ?_; rintro e w1 ⟨rfl, rfl⟩)
  refine wp_shade (fun V => OwS w0 V [bxS xb [.string p, .int .i64 who, .int .i64 now], tbS tb 1 (.slice av n cv)] 35 3 (.slice av n cv) n (lsS L)) HW1.out ?_
  intro W1 hW1
  have H1 := Shut.mk hW1
  have y2 := (hW1.sl.bx 1 rfl 2 _ rfl).1
  have hrow := (FRw.of_own hW1.own).1.crow
  have HRW := Shut.mk hrow
  clear HW1 hW1 x0 z0 hrow
  cases lo with
  | false =>
    have HE : Shut (RR = (L, false)) := ⟨HNO.out rfl⟩
    go_wp2_with (go_at_call 18; (with_reducible refine (HLO.out _ _ HRW.out).mono ?_); rintro e w2 ⟨rfl, hb⟩; have H2 := Shut.mk (H1.out.below hb); have q0 := (H2.out.sl.bx 0 rfl 0 _ rfl).1; have q1 := (H2.out.sl.bx 0 rfl 1 _ rfl).1; have q2 := (H2.out.sl.bx 0 rfl 2 _ rfl).1; clear hb y2)
    obtain ⟨r0, r1, r2⟩ := at_door2 H2.out.tail
    have HR : Shut (OwS w0 _ [tbS tb 0 _] 35 3 _ _ (lsS RR.1)) := ⟨by rw [HE.out]; exact r2⟩
    have HM : Shut (n = RR.1.length) := ⟨by rw [HE.out]; exact HN.out⟩
    clear r2
    refine leaves_cons (f := 57) (args := #[.pointer (some ⟨tb, 0, none⟩)]) (by simp) (by simp [go_sem]) ?_
    refine (Go.MuLone.unlock_deferred muLib ⟨tb, 0, none⟩ .returning _ r0 r1).mono ?_
    rintro e u' w'' ⟨rfl, rfl, rfl⟩
    exact ⟨_, results_tmp rfl _ _ _, TkPost.mk (by rw [HE.out]; rfl) HR.out HM.out⟩
  | true =>
  cases l1 with
  | false =>
    have HE : Shut (RR = (L, false)) := ⟨HNO.out rfl⟩
    go_wp2_with (first | (go_at_call 18; (with_reducible refine (HLO.out _ _ HRW.out).mono ?_); rintro e w2 ⟨rfl, hb⟩; have H2 := Shut.mk (H1.out.below hb); have q0 := (H2.out.sl.bx 0 rfl 0 _ rfl).1; have q1 := (H2.out.sl.bx 0 rfl 1 _ rfl).1; have q2 := (H2.out.sl.bx 0 rfl 2 _ rfl).1; clear hb y2) | (go_at_call 45; (with_reducible refine (HL1.out _).mono ?_); rintro e w3 ⟨rfl, hb⟩; have H3 := Shut.mk (H2.out.below hb); clear hb q0 q1 q2))
    obtain ⟨r0, r1, r2⟩ := at_door2 H3.out.tail
    have HR : Shut (OwS w0 _ [tbS tb 0 _] 35 3 _ _ (lsS RR.1)) := ⟨by rw [HE.out]; exact r2⟩
    have HM : Shut (n = RR.1.length) := ⟨by rw [HE.out]; exact HN.out⟩
    clear r2
    refine leaves_cons (f := 57) (args := #[.pointer (some ⟨tb, 0, none⟩)]) (by simp) (by simp [go_sem]) ?_
    refine (Go.MuLone.unlock_deferred muLib ⟨tb, 0, none⟩ .returning _ r0 r1).mono ?_
    rintro e u' w'' ⟨rfl, rfl, rfl⟩
    exact ⟨_, results_tmp rfl _ _ _, TkPost.mk (by rw [HE.out]; rfl) HR.out HM.out⟩
  | true =>
  replace HTI := Shut.mk (HTI.out rfl)
  obtain ⟨hup, hn8⟩ := HUP.out rfl
  have HUP9 := Shut.mk hup
  have HPL := Shut.mk (pos_low hup p)
  have HHI := Shut.mk (here_iff hup p)
  clear hup HNO HUP
  go_upto_region 5 with (first | (go_at_call 18; (with_reducible refine (HLO.out _ _ HRW.out).mono ?_); rintro e w2 ⟨rfl, hb⟩; have H2 := Shut.mk (H1.out.below hb); have q0 := (H2.out.sl.bx 0 rfl 0 _ rfl).1; have q1 := (H2.out.sl.bx 0 rfl 1 _ rfl).1; have q2 := (H2.out.sl.bx 0 rfl 2 _ rfl).1; clear hb y2) | (go_at_call 45; (with_reducible refine (HL1.out _).mono ?_); rintro e w3 ⟨rfl, hb⟩; have H3 := Shut.mk (H2.out.below hb); clear hb q0 q1 q2))
  have y2 := (H3.out.sl.bx 1 rfl 2 _ rfl).1
  have q0 := (H3.out.sl.bx 0 rfl 0 _ rfl).1
  have q1 := (H3.out.sl.bx 0 rfl 1 _ rfl).1
  have q2 := (H3.out.sl.bx 0 rfl 2 _ rfl).1
  have l3 : tb < w3.heap.size := (H3.out.sl.at 1 rfl).1
  have l4 : xb < w3.heap.size := (H3.out.sl.at 0 rfl).1
  have g2 : ∀ X : Grow w3, X.val.cell? ⟨tb, 2, none⟩ = some (.slice av n cv) := fun X => X.cell y2 l3
  have h0 : ∀ X : Grow w3, X.val.cell? ⟨xb, 0, none⟩ = some (.string p) := fun X => X.cell q0 l4
  have h1 : ∀ X : Grow w3, X.val.cell? ⟨xb, 1, none⟩ = some (.int .i64 who) := fun X => X.cell q1 l4
  have h2 : ∀ X : Grow w3, X.val.cell? ⟨xb, 2, none⟩ = some (.int .i64 now) := fun X => X.cell q2 l4
  have HBS := Shut.mk (fun X => calls_grow (w := w3) (fun W' (hb : Below w3.heap.size w3 W') => searchLease L av n cv ⟨p, who, now⟩ W' (FRw.of_own (H3.out.below hb).own).1.crow HN.out (by omega) HUP9.out) X)
  have HGR : Shut (∀ X : Grow w3, OwS w0 X.val [bxS xb [.string p, .int .i64 who, .int .i64 now], tbS tb 1 (.slice av n cv)] 35 3 (.slice av n cv) n (lsS L)) := ⟨fun X => H3.out.below X.bel⟩
  obtain ⟨at9, hat⟩ : ∃ q, q = posL L p := ⟨_, rfl⟩
  obtain ⟨hr9, hhr⟩ : ∃ q, q = hereL L p := ⟨_, rfl⟩
  rw [← hat] at HPL HHI HTI
  rw [← hhr] at HHI HTI
  have HBT : Shut (∀ X : Grow w3, _) := ⟨fun X => HBS.out X⟩
  dsimp only at HBT
  rw [← hat, ← hhr] at HBT
  clear y2 q0 q1 q2 l3 l4 HBS hat hhr
  refine wp_region_grow (by kernel_rfl) (by kernel_rfl) ?_
  repeat (go_big_quiet_step (first | (go_at_call 58; with_reducible exact HBT.out _)))
  refine wpQuiet_nil ?_
  rintro _ ⟨X, rfl⟩
  obtain ⟨w5, hw5⟩ : ∃ q, q = X.val := ⟨_, rfl⟩
  have H5 := Shut.mk (HGR.out X)
  rw [← hw5] at H5 ⊢
  clear g2 h0 h1 h2 HBT HGR hw5
  have hat0 : (0 : Int) ≤ (at9 : Int) := by omega
  have HAL : Shut (at9 ≤ n) := ⟨by rw [HN.out]; exact HPL.out.2.2⟩
  go_upto_region 6 with fail
  have y2 := (H5.out.sl.bx 1 rfl 2 _ rfl).1
  have q0 := (H5.out.sl.bx 0 rfl 0 _ rfl).1
  have q1 := (H5.out.sl.bx 0 rfl 1 _ rfl).1
  have q2 := (H5.out.sl.bx 0 rfl 2 _ rfl).1
  have l3 : tb < w5.heap.size := (H5.out.sl.at 1 rfl).1
  have l4 : xb < w5.heap.size := (H5.out.sl.at 0 rfl).1
  have g2 : ∀ X : Grow w5, X.val.cell? ⟨tb, 2, none⟩ = some (.slice av n cv) := fun X => X.cell y2 l3
  have h0 : ∀ X : Grow w5, X.val.cell? ⟨xb, 0, none⟩ = some (.string p) := fun X => X.cell q0 l4
  have h1 : ∀ X : Grow w5, X.val.cell? ⟨xb, 1, none⟩ = some (.int .i64 who) := fun X => X.cell q1 l4
  have h2 : ∀ X : Grow w5, X.val.cell? ⟨xb, 2, none⟩ = some (.int .i64 now) := fun X => X.cell q2 l4
  have HGR : Shut (∀ X : Grow w5, OwS w0 X.val [bxS xb [.string p, .int .i64 who, .int .i64 now], tbS tb 1 (.slice av n cv)] 35 3 (.slice av n cv) n (lsS L)) := ⟨fun X => H5.out.below X.bel⟩
  clear y2 q0 q1 q2 l3 l4
  cases hr9 with
  | true =>
    obtain ⟨hlt, -⟩ := HHI.out.1 rfl
    have hltn : at9 < n := by rw [HN.out]; exact hlt
    have hlti : (at9 : Int) < (n : Int) := by omega
    obtain ⟨g, rfl, g1, -, hw⟩ := frw_row (FRw.of_own H5.out.own).1 hlt
    have lg : g < w5.heap.size := hw.1
    have p0 : ∀ X : Grow w5, X.val.cell? ⟨g, at9 * 3, none⟩ = some (.string L[at9].path) := fun X => X.cell (hw.2 (at9 * 3) _ (flat_get lsC_len L at9 hlt 0 (by omega))).1 lg
    have p1 : ∀ X : Grow w5, X.val.cell? ⟨g, at9 * 3 + 1, none⟩ = some (.int .i64 L[at9].who) := fun X => X.cell (hw.2 (at9 * 3 + 1) _ (flat_get lsC_len L at9 hlt 1 (by omega))).1 lg
    have p2 : ∀ X : Grow w5, X.val.cell? ⟨g, at9 * 3 + 2, none⟩ = some (.int .i64 L[at9].seen) := fun X => X.cell (hw.2 (at9 * 3 + 2) _ (flat_get lsC_len L at9 hlt 2 (by omega))).1 lg
    have HTI2 : Shut (RR = if mayX L[at9] who now = true then (L.set at9 ⟨p, who, now⟩, true) else (L, false)) := ⟨by rw [HTI.out, if_pos rfl, getD_ls L at9 hlt]⟩
    have HML : Shut (at9 < L.length) := ⟨hlt⟩
    obtain ⟨u, hu⟩ : ∃ u, u = L[at9] := ⟨_, rfl⟩
    rw [← hu] at p0 p1 p2 HTI2
    have HMG := Shut.mk (fun X => calls_grow (w := w5) (fun W' (_ : Below w5.heap.size w5 W') => implMayGoTo u ⟨p, who, now⟩ W') X)
    dsimp only at HMG
    obtain ⟨mv, hmv⟩ : ∃ q, q = mayX u who now := ⟨_, rfl⟩
    rw [← hmv] at HTI2 HMG
    clear hw hu hmv hlt HTI g1 lg
    cases mv with
    | false =>
      have HE : Shut (RR = (L, false)) := ⟨by rw [HTI2.out]; rfl⟩
      refine wp_region_grow (by kernel_rfl) (by kernel_rfl) ?_
      repeat (go_big_quiet_step (first | (go_at_call 59; with_reducible exact HMG.out _)))
      refine wpQuiet_nil ?_
      rintro _ ⟨X, rfl⟩
      have H6 := Shut.mk (HGR.out X)
      clear g2 h0 h1 h2 p0 p1 p2
      go_wp2_with fail
      obtain ⟨r0, r1, r2⟩ := at_door2 H6.out.tail
      have HR : Shut (OwS w0 _ [tbS tb 0 _] 35 3 _ _ (lsS RR.1)) := ⟨by rw [HE.out]; exact r2⟩
      have HM : Shut (n = RR.1.length) := ⟨by rw [HE.out]; exact HN.out⟩
      clear r2
      refine leaves_cons (f := 57) (args := #[.pointer (some ⟨tb, 0, none⟩)]) (by simp) (by simp [go_sem]) ?_
      refine (Go.MuLone.unlock_deferred muLib ⟨tb, 0, none⟩ .returning _ r0 r1).mono ?_
      rintro e u' w'' ⟨rfl, rfl, rfl⟩
      exact ⟨_, results_tmp rfl _ _ _, TkPost.mk (by rw [HE.out]; rfl) HR.out HM.out⟩
    | true =>
      have HE : Shut (RR = (L.set at9 ⟨p, who, now⟩, true)) := ⟨by rw [HTI2.out]; rfl⟩
      refine wp_region_grow (by kernel_rfl) (by kernel_rfl) ?_
      repeat (go_big_quiet_step (first | (go_at_call 59; with_reducible exact HMG.out _)))
      refine wpQuiet_nil ?_
      rintro _ ⟨X, rfl⟩
      obtain ⟨w6, hw6⟩ : ∃ q, q = X.val := ⟨_, rfl⟩
      have H6 := Shut.mk (HGR.out X)
      rw [← hw6] at H6 ⊢
      clear g2 h0 h1 h2 p0 p1 p2 HGR hw6
      go_upto_region 7 with fail
      have HTX : Shut (∀ x, Later w6.drew x → OwS w0 x [bxS xb [.string p, .int .i64 who, .int .i64 now], tbS tb 1 (.slice (some ⟨g, 0, none⟩) n cv)] 35 3 (.slice (some ⟨g, 0, none⟩) n cv) n (lsS L)) := ⟨fun x hx => H6.out.below ((Below.drew (Below.refl _ _)).trans hx)⟩
      have HLE : Shut (∀ x, Later w6.drew x → x.cell? ⟨tb, 2, none⟩ = some (.slice (some ⟨g, 0, none⟩) n cv) ∧ x.cell? ⟨xb, 0, none⟩ = some (.string p) ∧ x.cell? ⟨xb, 1, none⟩ = some (.int .i64 who) ∧ x.cell? ⟨xb, 2, none⟩ = some (.int .i64 now)) := ⟨fun x hx => ⟨((HTX.out x hx).sl.bx 1 rfl 2 _ rfl).1, ((HTX.out x hx).sl.bx 0 rfl 0 _ rfl).1, ((HTX.out x hx).sl.bx 0 rfl 1 _ rfl).1, ((HTX.out x hx).sl.bx 0 rfl 2 _ rfl).1⟩⟩
      refine wp_region_calm ?_
      refine wp_region_tail 7 (by kernel_rfl) ?_
      refine wpK_val (i := 0) (v := ?vr70) rfl (by kernel_rfl) (by kernel_rfl) (by kernel_rfl) (by kernel_rfl) (fun _ _ _ h => calm_no h) (by rfl) ?hyr70 ?restr70
      case hyr70 => (intro x hx; obtain ⟨d0, e0, e1, e2⟩ := HLE.out x hx; go_simp; try with_reducible rfl)
      try simp only [Act.put, List.setIfInBounds_toArray, List.set_cons_zero, List.set_cons_succ]
      refine wpK_val (i := 1) (v := ?vr71) rfl (by kernel_rfl) (by kernel_rfl) (by kernel_rfl) (by kernel_rfl) (fun _ _ _ h => calm_no h) (by rfl) ?hyr71 ?restr71
      case hyr71 => (intro x hx; obtain ⟨d0, e0, e1, e2⟩ := HLE.out x hx; go_simp; try with_reducible rfl)
      try simp only [Act.put, List.setIfInBounds_toArray, List.set_cons_zero, List.set_cons_succ]
      refine wpK_val (i := 2) (v := ?vr72) rfl (by kernel_rfl) (by kernel_rfl) (by kernel_rfl) (by kernel_rfl) (fun _ _ _ h => calm_no h) (by rfl) ?hyr72 ?restr72
      case hyr72 => (intro x hx; obtain ⟨d0, e0, e1, e2⟩ := HLE.out x hx; go_simp; try with_reducible rfl)
      try simp only [Act.put, List.setIfInBounds_toArray, List.set_cons_zero, List.set_cons_succ]
      refine wpK_val (i := 3) (v := ?vr73) rfl (by kernel_rfl) (by kernel_rfl) (by kernel_rfl) (by kernel_rfl) (fun _ _ _ h => calm_no h) (by rfl) ?hyr73 ?restr73
      case hyr73 => (intro x hx; obtain ⟨d0, e0, e1, e2⟩ := HLE.out x hx; go_simp; try with_reducible rfl)
      try simp only [Act.put, List.setIfInBounds_toArray, List.set_cons_zero, List.set_cons_succ]
      refine wpK_val (i := 4) (v := ?vr74) rfl (by kernel_rfl) (by kernel_rfl) (by kernel_rfl) (by kernel_rfl) (fun _ _ _ h => calm_no h) (by rfl) ?hyr74 ?restr74
      case hyr74 => (intro x hx; obtain ⟨d0, e0, e1, e2⟩ := HLE.out x hx; go_simp; try with_reducible rfl)
      try simp only [Act.put, List.setIfInBounds_toArray, List.set_cons_zero, List.set_cons_succ]
      refine wpK_val (i := 5) (v := ?vr75) rfl (by kernel_rfl) (by kernel_rfl) (by kernel_rfl) (by kernel_rfl) (fun _ _ _ h => calm_no h) (by rfl) ?hyr75 ?restr75
      case hyr75 => (intro x hx; obtain ⟨d0, e0, e1, e2⟩ := HLE.out x hx; go_simp; try with_reducible rfl)
      try simp only [Act.put, List.setIfInBounds_toArray, List.set_cons_zero, List.set_cons_succ]
      refine wpK_val (i := 6) (v := ?vr76) rfl (by kernel_rfl) (by kernel_rfl) (by kernel_rfl) (by kernel_rfl) (fun _ _ _ h => calm_no h) (by rfl) ?hyr76 ?restr76
      case hyr76 => (intro x hx; obtain ⟨d0, e0, e1, e2⟩ := HLE.out x hx; go_simp; try with_reducible rfl)
      try simp only [Act.put, List.setIfInBounds_toArray, List.set_cons_zero, List.set_cons_succ]
      refine wpK_tail (by kernel_rfl) ?_
      intro y hy
      have HY := Shut.mk (HTX.out y hy)
      have hwy := own_wcells HY.out.own
      have hlt := HML.out
      obtain ⟨z0, zf0⟩ := hwy.2 (at9 * 3) _ (flat_get lsC_len L at9 hlt 0 (by omega))
      obtain ⟨z1, zf1⟩ := hwy.2 (at9 * 3 + 1) _ (flat_get lsC_len L at9 hlt 1 (by omega))
      obtain ⟨z2, zf2⟩ := hwy.2 (at9 * 3 + 2) _ (flat_get lsC_len L at9 hlt 2 (by omega))
      have HS := Shut.mk (HY.out.lease at9 hlt ⟨p, who, now⟩)
      have HSL : Shut (n = (L.set at9 (⟨p, who, now⟩ : LsM)).length) := ⟨by rw [List.length_set]; exact HN.out⟩
      clear hwy hy
      refine wpA_store (y := ((y.setCell ⟨g, at9 * 3, none⟩ (.string p)).setCell ⟨g, at9 * 3 + 1, none⟩ (.int .i64 who)).setCell ⟨g, at9 * 3 + 2, none⟩ (.int .i64 now)) (i := 7) (by kernel_rfl) rfl (by rfl) (by go_simp) (by kernel_rfl) ?_
      try simp only [Act.put]
      refine ⟨by trivial, ?_⟩
      clear z0 zf0 z1 zf1 z2 zf2
      go_wp2_with fail
      obtain ⟨r0, r1, r2⟩ := at_door2 HS.out.tail
      have HR : Shut (OwS w0 _ [tbS tb 0 _] 35 3 _ _ (lsS RR.1)) := ⟨by rw [HE.out]; exact r2⟩
      have HM : Shut (n = RR.1.length) := ⟨by rw [HE.out]; exact HSL.out⟩
      clear r2
      refine leaves_cons (f := 57) (args := #[.pointer (some ⟨tb, 0, none⟩)]) (by simp) (by simp [go_sem]) ?_
      refine (Go.MuLone.unlock_deferred muLib ⟨tb, 0, none⟩ .returning _ r0 r1).mono ?_
      rintro e u' w'' ⟨rfl, rfl, rfl⟩
      exact ⟨_, results_tmp rfl _ _ _, TkPost.mk (by rw [HE.out]; rfl) HR.out HM.out⟩
  | false =>
    have HTI2 : Shut (RR = if L.length = 8 then (L, false) else (L.take at9 ++ [(⟨p, who, now⟩ : LsM)] ++ L.drop at9, true)) := ⟨by rw [HTI.out]; rfl⟩
    refine wp_region_grow (by kernel_rfl) (by kernel_rfl) ?_
    repeat (go_big_quiet_step (fail))
    refine wpQuiet_nil ?_
    rintro _ ⟨X, rfl⟩
    obtain ⟨w6, hw6⟩ : ∃ q, q = X.val := ⟨_, rfl⟩
    have H6 := Shut.mk (HGR.out X)
    rw [← hw6] at H6 ⊢
    have y2 := (H6.out.sl.bx 1 rfl 2 _ rfl).1
    clear g2 h0 h1 h2 HGR hw6
    by_cases h8 : n < 8
    · have h8' : decide ((n : Int) < 8) = true := by simp; omega
      have h8i : (n : Int) < 8 := by omega
      have HE : Shut (RR = (L.take at9 ++ [(⟨p, who, now⟩ : LsM)] ++ L.drop at9, true)) := ⟨by rw [HTI2.out, if_neg (by have := HN.out; omega)]⟩
      have HSL : Shut (n + 1 = (L.take at9 ++ [(⟨p, who, now⟩ : LsM)] ++ L.drop at9).length) := ⟨by
        have h1 := HAL.out
        have h2 := HN.out
        simp only [List.length_append, List.length_take, List.length_drop, List.length_cons, List.length_nil]
        omega⟩
      go_upto_region 10 with fail
      clear y2
      have HTX : Shut (∀ x, Later w6.drew x → OwS w0 x [bxS xb [.string p, .int .i64 who, .int .i64 now], tbS tb 1 (.slice av n cv)] 35 3 (.slice av n cv) n (lsS L)) := ⟨fun x hx => H6.out.below ((Below.drew (Below.refl _ _)).trans hx)⟩
      have HLE : Shut (∀ x, Later w6.drew x → x.cell? ⟨tb, 2, none⟩ = some (.slice av n cv) ∧ x.cell? ⟨xb, 0, none⟩ = some (.string p) ∧ x.cell? ⟨xb, 1, none⟩ = some (.int .i64 who) ∧ x.cell? ⟨xb, 2, none⟩ = some (.int .i64 now)) := ⟨fun x hx => ⟨((HTX.out x hx).sl.bx 1 rfl 2 _ rfl).1, ((HTX.out x hx).sl.bx 0 rfl 0 _ rfl).1, ((HTX.out x hx).sl.bx 0 rfl 1 _ rfl).1, ((HTX.out x hx).sl.bx 0 rfl 2 _ rfl).1⟩⟩
      refine wp_region_calm ?_
      refine wp_region_set (fun j => decide (j = 0) || decide (8 ≤ j)) (by kernel_rfl) ?_
      refine wpD_pure (i := 0) (v := ?vz0) rfl (by kernel_rfl) (by kernel_rfl) (by kernel_rfl) (by kernel_rfl) (fun _ _ _ h => calm_no h) (by rfl) ?hyz0 ?restz0
      case hyz0 => (intro x; go_simp; try with_reducible rfl)
      try simp only [Act.put, List.setIfInBounds_toArray, List.set_cons_zero, List.set_cons_succ]
      refine wpD_val (i := 1) (v := ?vz1) rfl (by kernel_rfl) (by kernel_rfl) (by kernel_rfl) (by kernel_rfl) (fun _ _ _ h => calm_no h) (by rfl) ?hyz1 ?restz1
      case hyz1 => (intro x hx; obtain ⟨d0, e0, e1, e2⟩ := HLE.out x hx; go_simp; try with_reducible rfl)
      try simp only [Act.put, List.setIfInBounds_toArray, List.set_cons_zero, List.set_cons_succ]
      refine wpD_val (i := 2) (v := ?vz2) rfl (by kernel_rfl) (by kernel_rfl) (by kernel_rfl) (by kernel_rfl) (fun _ _ _ h => calm_no h) (by rfl) ?hyz2 ?restz2
      case hyz2 => (intro x hx; obtain ⟨d0, e0, e1, e2⟩ := HLE.out x hx; go_simp; try with_reducible rfl)
      try simp only [Act.put, List.setIfInBounds_toArray, List.set_cons_zero, List.set_cons_succ]
      refine wpD_val (i := 3) (v := ?vz3) rfl (by kernel_rfl) (by kernel_rfl) (by kernel_rfl) (by kernel_rfl) (fun _ _ _ h => calm_no h) (by rfl) ?hyz3 ?restz3
      case hyz3 => (intro x hx; obtain ⟨d0, e0, e1, e2⟩ := HLE.out x hx; go_simp; try with_reducible rfl)
      try simp only [Act.put, List.setIfInBounds_toArray, List.set_cons_zero, List.set_cons_succ]
      refine wpD_val (i := 4) (v := ?vz4) rfl (by kernel_rfl) (by kernel_rfl) (by kernel_rfl) (by kernel_rfl) (fun _ _ _ h => calm_no h) (by rfl) ?hyz4 ?restz4
      case hyz4 => (intro x hx; obtain ⟨d0, e0, e1, e2⟩ := HLE.out x hx; go_simp; try with_reducible rfl)
      try simp only [Act.put, List.setIfInBounds_toArray, List.set_cons_zero, List.set_cons_succ]
      refine wpD_val (i := 5) (v := ?vz5) rfl (by kernel_rfl) (by kernel_rfl) (by kernel_rfl) (by kernel_rfl) (fun _ _ _ h => calm_no h) (by rfl) ?hyz5 ?restz5
      case hyz5 => (intro x hx; obtain ⟨d0, e0, e1, e2⟩ := HLE.out x hx; go_simp; try with_reducible rfl)
      try simp only [Act.put, List.setIfInBounds_toArray, List.set_cons_zero, List.set_cons_succ]
      refine wpD_val (i := 6) (v := ?vz6) rfl (by kernel_rfl) (by kernel_rfl) (by kernel_rfl) (by kernel_rfl) (fun _ _ _ h => calm_no h) (by rfl) ?hyz6 ?restz6
      case hyz6 => (intro x hx; obtain ⟨d0, e0, e1, e2⟩ := HLE.out x hx; go_simp; try with_reducible rfl)
      try simp only [Act.put, List.setIfInBounds_toArray, List.set_cons_zero, List.set_cons_succ]
      refine wpD_one (i := 7) (by kernel_rfl) rfl (by rfl) (fun x2 hx2 => ⟨.slice (some ⟨x2.heap.size, 0, none⟩) 1 1, x2.alloc (.cells #[.string p, .int .i64 who, .int .i64 now] 35), by go_simp, (Below.refl _ _).alloc (Nat.le_refl _) _, ?_⟩)
      have HY2 := Shut.mk ((HTX.out x2 hx2).box #[.string p, .int .i64 who, .int .i64 now] 35)
      have HVB := Shut.mk (heap_alloc_new x2 (.cells #[.string p, .int .i64 who, .int .i64 now] 35 (0, 0)))
      obtain ⟨vb, hvb⟩ : ∃ q, q = x2.heap.size := ⟨_, rfl⟩
      have hlb : vb < (x2.alloc (.cells #[.string p, .int .i64 who, .int .i64 now] 35)).heap.size := by rw [hvb]; simp
      rw [← hvb] at HY2 HVB ⊢
      clear hx2 hvb HLE HTX
      try simp only [Act.put, List.setIfInBounds_toArray, List.set_cons_zero, List.set_cons_succ]
      refine wpD_tail (by kernel_rfl) ?_
      intro y hy
      have HY := Shut.mk (HY2.out.below hy)
      have HVY := Shut.mk ((hy.block vb hlb).trans HVB.out)
      have hwx : ([.string p, .int .i64 who, .int .i64 now] : List Value) = lsC ⟨p, who, now⟩ := rfl
      rw [hwx] at HY
      have HIN := Shut.mk (insertLease HY.out HVY.out HN.out (by omega) HAL.out)
      clear hy hlb HY2 HVB HVY hwx
      refine wpA_mid (f := 60) (args := #[.slice av n cv, .int .i64 (at9 : Nat), .slice (some ⟨vb, 0, none⟩) 1 1]) (i := 8) (by kernel_rfl) rfl (by rfl) (by go_simp) (HIN.out.mono ?_)
      rintro e z ⟨v', rfl, hz⟩
      refine ⟨_, rfl, ?_⟩
      have HZ := Shut.mk hz
      obtain ⟨z2, zf2⟩ := hz.sl.bx 2 rfl 2 _ rfl
      have HP := Shut.mk (hz.tail.put 1 rfl 2 v' (by simp))
      simp only [List.set_cons_zero, List.set_cons_succ] at HP
      obtain ⟨av', cv', rfl⟩ := own_row_slice hz.own
      clear hz HIN HY
      try simp only [Act.put, List.setIfInBounds_toArray, List.set_cons_zero, List.set_cons_succ]
      refine wpA_val (i := 9) (v := .pointer (some ⟨tb, 0, none⟩)) rfl (by kernel_rfl) (by kernel_rfl) (by kernel_rfl) (fun _ _ _ h => calm_no h) (by rfl) (fun x => by go_simp) ?_
      try simp only [Act.put, List.setIfInBounds_toArray, List.set_cons_zero, List.set_cons_succ]
      refine wpA_val (i := 10) (v := .pointer (some ⟨tb, 2, none⟩)) rfl (by kernel_rfl) (by kernel_rfl) (by kernel_rfl) (fun _ _ _ h => calm_no h) (by rfl) (fun x => by go_simp) ?_
      try simp only [Act.put, List.setIfInBounds_toArray, List.set_cons_zero, List.set_cons_succ]
      refine wpA_store (y := z.setCell ⟨tb, 2, none⟩ (.slice av' (n + 1) cv')) (i := 11) (by kernel_rfl) rfl (by rfl) (by go_simp) (by kernel_rfl) ?_
      try simp only [Act.put]
      refine ⟨by trivial, ?_⟩
      clear z2 zf2 HZ
      go_wp2_with fail
      obtain ⟨r0, r1, r2⟩ := at_door2 HP.out.tail
      have HR : Shut (OwS w0 _ [tbS tb 0 _] 35 3 _ _ (lsS RR.1)) := ⟨by rw [HE.out]; exact r2⟩
      have HM : Shut (n + 1 = RR.1.length) := ⟨by rw [HE.out]; exact HSL.out⟩
      clear r2
      refine leaves_cons (f := 57) (args := #[.pointer (some ⟨tb, 0, none⟩)]) (by simp) (by simp [go_sem]) ?_
      refine (Go.MuLone.unlock_deferred muLib ⟨tb, 0, none⟩ .returning _ r0 r1).mono ?_
      rintro e u' w'' ⟨rfl, rfl, rfl⟩
      exact ⟨_, results_tmp rfl _ _ _, TkPost.mk (by rw [HE.out]; rfl) HR.out HM.out⟩
    · have h8' : decide ((n : Int) < 8) = false := by simp; omega
      have h8i : ¬ (n : Int) < 8 := by omega
      have HE : Shut (RR = (L, false)) := ⟨by rw [HTI2.out, if_pos (by have := HN.out; omega)]⟩
      go_wp2_with fail
      obtain ⟨r0, r1, r2⟩ := at_door2 H6.out.tail
      have HR : Shut (OwS w0 _ [tbS tb 0 _] 35 3 _ _ (lsS RR.1)) := ⟨by rw [HE.out]; exact r2⟩
      have HM : Shut (n = RR.1.length) := ⟨by rw [HE.out]; exact HN.out⟩
      clear r2
      refine leaves_cons (f := 57) (args := #[.pointer (some ⟨tb, 0, none⟩)]) (by simp) (by simp [go_sem]) ?_
      refine (Go.MuLone.unlock_deferred muLib ⟨tb, 0, none⟩ .returning _ r0 r1).mono ?_
      rintro e u' w'' ⟨rfl, rfl, rfl⟩
      exact ⟨_, results_tmp rfl _ _ _, TkPost.mk (by rw [HE.out]; rfl) HR.out HM.out⟩
set_option maxRecDepth 100000 in
theorem implTakeLease (us : List LsM) (a : Option Addr) (cap : Nat) (p : ByteArray) (who now : Int) (w : World) (hr : LsRow w a us) (hl : us.length ≤ 1048576) (hz : ∀ u ∈ us, u.path.size ≤ 1048576) (hp : p.size ≤ 1048576) (_ : -9223372036854775808 ≤ who ∧ who ≤ 9223372036854775807) (_ : -9223372036854775808 ≤ now ∧ now ≤ 9223372036854775807) :
    Calls Try.prog 13 #[.slice a us.length cap, .string p, .int .i64 who, .int .i64 now] w fun e w' => LbPost (takeX us p who now) w e w' := by
  have HT := Shut.mk (implTableOf us a cap w hr hl)
  have HZ0 := Shut.mk hz
  have HZ : Shut (∀ u ∈ (takeX us p who now).1, u.path.size ≤ 1048576) := ⟨fun u hu => by
    unfold takeX at hu
    split at hu
    · split at hu
      · split at hu
        · exact hz u hu
        · rcases List.mem_or_eq_of_mem_set hu with h | h
          · exact hz u h
          · rw [h]
            rename_i hlt _
            show (us.getD (lsIdx us p) default).path.size ≤ 1048576
            rw [getD_ls us _ hlt]
            exact hz _ (List.getElem_mem hlt)
      · split at hu
        · exact hz u hu
        · simp only [List.mem_append, List.mem_singleton] at hu
          rcases hu with (h | h) | h
          · exact hz u (List.mem_filter.1 h).1
          · rw [h]; exact hp
          · exact hz u (List.mem_filter.1 h).1
    · exact hz u hu⟩
  have HLE := Shut.mk (takeX_len us p who now)
  obtain ⟨n, hn⟩ : ∃ n, n = us.length := ⟨_, rfl⟩
  have HN := Shut.mk hn
  have HTK : Shut (∀ (W : World) (tb : Nat) (v : Value), OwS w W [tbS tb 0 v] 35 3 v n (lsS us) → Calls Try.prog 39 #[.pointer (some ⟨tb, 0, none⟩), lsv ⟨p, who, now⟩] W fun e W' => TkPost w tb (takeX us p who now) e W') := ⟨fun W tb v h => implTakeT h hn (by omega) hz p who now hp⟩
  rw [← hn] at HT hl HLE ⊢
  generalize takeX us p who now = RR at HZ HLE HTK ⊢
  clear hr hn hz hp
  go_enter Try.func13, Try.ntmps13
  go_wp2_with (first
    | (go_at_call 38; refine HT.out.mono ?_; rintro e w1 ⟨tb, v, rfl, ho⟩; have HO := Shut.mk ho; clear ho)
    | (go_at_call 39; refine (HTK.out _ _ _ HO.out).mono ?_; rintro e w2 ⟨rfl, v2, m2, ho, hm⟩; have HO2 := Shut.mk ho; have HM2 := Shut.mk hm; clear ho hm)
    | (go_at_call 40; refine (implTold HO2.out HM2.out (by have := HLE.out; have := HM2.out; omega) HZ.out).mono ?_; rintro e w3 ⟨a3, c3, rfl, hp⟩; have HP := Shut.mk hp; clear hp))
  go_ret2
  exact ⟨a3, c3, rfl, HP.out⟩
end Go.Proofs.Ytcnjjbgilpgceaa
/- OpenM: Rows of numbers, of rows of numbers, and of texts, that came in. -/
namespace Go.Proofs.Ytcnjjbgilpgceaa
set_option maxRecDepth 100000
open Go.RowKit Go.Deep Go.ChangeShapes Go.WideShapes

theorem cells_int : Try.prog.cellsOf 3 = 1 := by kernel_rfl
theorem cells_ints : Try.prog.cellsOf 26 = 1 := by kernel_rfl
theorem cells_str : Try.prog.cellsOf 9 = 1 := by kernel_rfl
/-- A row out of its elements. -/
theorem rows_from {α : Type} [Inhabited α] {en : α → List Value} {sz : Nat} (hsz : ∀ x, (en x).length = sz) (hp0 : 0 < sz) {W : World} {ad : Addr} {len : Nat} {Pr : α → Prop}
    (each : ∀ i, i < len → ∃ f : α, (∀ r v, (en f)[r]? = some v → W.cell? (ad.add (i * sz + r)) = some v) ∧ Pr f) : ∃ xs : List α, xs.length = len ∧ CRow W (some ad) (xs.flatMap en) ∧ ∀ f ∈ xs, Pr f := by
  obtain ⟨F, hF⟩ := choose_lt each
  have hlen : ((List.range len).map F).length = len := by simp
  have hget : ∀ j (hj : j < ((List.range len).map F).length), ((List.range len).map F)[j] = F j := by intro j hj; simp
  refine ⟨(List.range len).map F, hlen, ?_, ?_⟩
  · intro hp
    rw [flat_len hsz, hlen] at hp
    have hl0 : 0 < len := Nat.pos_of_ne_zero fun e => by rw [e] at hp; simp at hp
    have h00 : ∃ v, (en (F 0))[0]? = some v := by
      have : 0 < (en (F 0)).length := by rw [hsz]; exact hp0
      exact ⟨_, List.getElem?_eq_getElem this⟩
    obtain ⟨v0, hv0⟩ := h00
    have c0 := (hF 0 hl0).1 0 v0 hv0
    have hs : ad.spot = none := by
      have := World.cell?_spot c0
      simpa [Addr.add] using this
    obtain ⟨b, off, spot⟩ := ad
    simp only at hs
    subst hs
    have hadd : ∀ i, (⟨b, off, none⟩ : Addr).add i = ⟨b, off + i, none⟩ := by intro i; cases i <;> simp [Addr.add]
    refine ⟨b, off, rfl, ?_, fun i v hv => ?_⟩
    · by_cases hb : b < W.heap.size
      · exact hb
      · unfold World.cell? at c0
        rw [hadd, Array.getElem?_eq_none (by simpa using hb)] at c0
        simp at c0
    · have hi : i < (((List.range len).map F).flatMap en).length := (List.getElem?_eq_some_iff.1 hv).1
      rw [flat_len hsz, hlen] at hi
      have hq : i / sz < len := Nat.div_lt_of_lt_mul (by rwa [Nat.mul_comm] at hi)
      have hr := Nat.mod_lt i hp0
      have ei : i = i / sz * sz + i % sz := by rw [Nat.mul_comm]; exact (Nat.div_add_mod i sz).symm
      have hj : i / sz < ((List.range len).map F).length := by rw [hlen]; exact hq
      have l1 := flat_get hsz ((List.range len).map F) (i / sz) hj (i % sz) hr
      rw [hget _ hj, ← ei] at l1
      have := (hF (i / sz) hq).1 (i % sz) v (by rw [← l1]; exact hv)
      rw [← ei, hadd] at this
      exact this
  · intro f hf
    obtain ⟨j, hj, rfl⟩ := List.mem_map.1 hf
    exact (hF j (by simpa using hj)).2
theorem ics_flats (xs : List Int) : ics xs = xs.flatMap fun x => [.int .i64 x] := by
  unfold ics
  induction xs with
  | nil => rfl
  | cons x xs ih => simp [ih]
set_option maxRecDepth 100000 in
theorem open_row {H : Type} {enc : TypeId × Value → H} {W : World} {base : Nat} {spare : Nat → Bool} {held : Bool} {fuel : Nat} {cs : List Value} {x : DataW H × List MemPlace}
    (h : DataW.trod enc Try.prog W base spare held fuel 26 cs = some x) : ∃ s : SR, cs = [srv s] ∧ CRow W s.loc (ics s.row) ∧ s.row.length ≤ 9223372036854775807 := by
  rcases open_slice Try.underlying26 h with ⟨rfl, _⟩ | ⟨ad, len, cap, m, n, D, Pl, rfl, hb, hl, hm, hmm, _, hx⟩
  · exact ⟨⟨none, [], 0⟩, rfl, fun h => by simp [ics] at h, by simp⟩
  · have hlm : len ≤ m := by rw [hmm]; split <;> omega
    have each : ∀ i, i < len → ∃ f : Int, (∀ r v, ([.int .i64 f] : List Value)[r]? = some v → W.cell? (ad.add (i * 1 + r)) = some v) ∧ True := by
      intro i hi
      obtain ⟨cs', h1, h2⟩ := hx i (by omega)
      rw [cells_int] at h1
      obtain ⟨_, hlen, hcell⟩ := World.cells?_some h1
      obtain ⟨q, e2, _, z2⟩ := DataW.trod_int Try.underlying3 h2
      have c0 := hcell 0 (by omega)
      rw [add_add] at c0
      subst e2
      refine ⟨q, fun r v hv => ?_, trivial⟩
      match r, hv with
      | 0, hv => simp at hv; subst hv; simpa using c0
    obtain ⟨xs, hxl, hrow, _⟩ := rows_from (en := fun x => [.int .i64 x]) (fun _ => rfl) (by decide) each
    rw [← ics_flats] at hrow
    exact ⟨⟨some ad, xs, cap⟩, by simp only [srv]; rw [hxl], hrow, by show xs.length ≤ _; rw [hxl]; unfold maxLen at hm; omega⟩
theorem svs_flat (ss : List SR) : svs ss = ss.flatMap fun s => [srv s] := by
  unfold svs
  induction ss with
  | nil => rfl
  | cons x xs ih => simp [ih]
end Go.Proofs.Ytcnjjbgilpgceaa
/- LsAo: Leases, and rows of them, that came in (written by gen/mkrow.py). -/
namespace Go.Proofs.Ytcnjjbgilpgceaa
set_option maxRecDepth 100000
open Go.RowKit Go.Deep Go.ChangeShapes Go.WideShapes
theorem cellsLLease : Try.prog.cellsOf 66 = 3 := by kernel_rfl
theorem cellsTLease : Try.prog.cellsOf 9 = 1 := by kernel_rfl
theorem cellsNLease : Try.prog.cellsOf 3 = 1 := by kernel_rfl
set_option maxRecDepth 100000 in
theorem openLease_cells {H : Type} {enc : TypeId × Value → H} {W : World} {base : Nat} {spare : Nat → Bool} {held : Bool} {n : Nat} {cs : List Value} {x : DataW H × List MemPlace} (h : DataW.trod enc Try.prog W base spare held n 66 cs = some x) :
    ∃ f : LsM, cs = lsC f ∧ LsFit f := by
  obtain ⟨xs, k, _, rfl, hl, hlen, hf⟩ := DataW.trod_struct Try.underlying66 h
  rw [cellsLLease] at hl
  match xs, hlen, cs, hl with
  | [y0, y1, y2], _, [v0, v1, v2], _ =>
    have g0 := hf 0 _ rfl
    have g1 := hf 1 _ rfl
    have g2 := hf 2 _ rfl
    simp [cellsTLease, cellsNLease] at g0 g1 g2
    obtain ⟨s0, e0, _, z0⟩ := DataW.trod_string Try.underlying9 g0
    obtain ⟨q1, e1, _, z1⟩ := DataW.trod_int Try.underlying3 g1
    obtain ⟨q2, e2, _, z2⟩ := DataW.trod_int Try.underlying3 g2
    simp only [List.cons.injEq, and_true] at e0 e1 e2
    subst e0 e1 e2
    unfold maxLen at z0
    exact ⟨⟨s0, q1, q2⟩, rfl, by simpa using z0, bounds_i64 z1, bounds_i64 z2⟩
set_option maxRecDepth 100000 in
theorem openLease {H : Type} {enc : TypeId × Value → H} {W : World} {r : Reach} {b0 base : Nat} {spare : Nat → Bool} {held : Bool} {v : Value} {d : DataW H} {p : List MemPlace}
    (hv : Value.okWide Try.prog W r b0 66 v) (h : DataW.Trod enc Try.prog W base spare held 66 v d p) : ∃ f : LsM, v = lsv f ∧ LsFit f := by
  obtain ⟨cs, rfl, hsz⟩ := okWide_struct Try.underlying66 hv
  obtain ⟨fuel, h⟩ := h
  obtain ⟨f, e, hf⟩ := openLease_cells h
  refine ⟨f, ?_, hf⟩
  have : cs.toList = lsC f := by simpa [Value.cells] using e
  rw [show cs = (lsC f).toArray by rw [← this]]
  rfl
/-- What a slice's cells hold. -/
theorem openLeaseS_cells {H : Type} {enc : TypeId × Value → H} {W : World} {base : Nat} {spare : Nat → Bool} {held : Bool} {va : Option Addr} {vl vc fuel : Nat} {x : DataW H × List MemPlace}
    (h : DataW.trod enc Try.prog W base spare held fuel 39 [.slice va vl vc] = some x) : ∃ xs, vl = List.length (α := LsM) xs ∧ LsRow W va xs ∧ LsFits xs := by
  rcases open_slice Try.underlying39 h with ⟨e, _⟩ | ⟨ad, len, cap, m, n, D, Pl, e, hb, hl, hm, hmm, _, hx⟩
  · simp only [List.cons.injEq, and_true, Value.slice.injEq] at e
    obtain ⟨rfl, rfl, rfl⟩ := e
    exact ⟨[], rfl, fun h => by simp [lsS] at h, by simp, by simp⟩
  · have hlm : len ≤ m := by rw [hmm]; split <;> omega
    have each : ∀ i, i < len → ∃ f : LsM, (∀ r v, (lsC f)[r]? = some v → W.cell? (ad.add (i * 3 + r)) = some v) ∧ LsFit f := by
      intro i hi
      obtain ⟨cs', h1, h2⟩ := hx i (by omega)
      rw [cellsLLease] at h1
      obtain ⟨_, hlen, hcell⟩ := World.cells?_some h1
      obtain ⟨f, rfl, hfit⟩ := openLease_cells h2
      refine ⟨f, fun r v hv => ?_, hfit⟩
      have hr : r < (lsC f).length := (List.getElem?_eq_some_iff.1 hv).1
      have c := hcell r (by rw [lsC_len] at hr; omega)
      rw [add_add] at c
      rw [c]
      exact hv
    obtain ⟨xs, hxl, hrow, hall⟩ := rows_from (en := lsC) lsC_len (by decide) each
    simp only [List.cons.injEq, and_true, Value.slice.injEq] at e
    obtain ⟨rfl, rfl, rfl⟩ := e
    exact ⟨xs, by rw [hxl], hrow, by rw [hxl]; unfold maxLen at hm; omega, hall⟩
theorem openLeaseS {H : Type} {enc : TypeId × Value → H} {W : World} {r : Reach} {b0 base : Nat} {spare : Nat → Bool} {held : Bool} {v : Value} {d : DataW H} {p : List MemPlace}
    (hv : Value.okWide Try.prog W r b0 39 v) (h : DataW.Trod enc Try.prog W base spare held 39 v d p) : ∃ a xs cap, v = .slice a (List.length (α := LsM) xs) cap ∧ LsRow W a xs ∧ LsFits xs := by
  obtain ⟨va, vl, vc, rfl⟩ := okWide_slice Try.underlying39 hv
  obtain ⟨fuel, h⟩ := h
  obtain ⟨xs, rfl, hr, hf⟩ := openLeaseS_cells (by simpa only [Value.cells] using h)
  exact ⟨va, xs, vc, rfl, hr, hf⟩
end Go.Proofs.Ytcnjjbgilpgceaa
/- SpO: The model's TakeLease (written by gen/mktake.py). -/
namespace Go.Proofs.Ytcnjjbgilpgceaa
set_option maxRecDepth 100000
open Go.RowKit BigFrame
attribute [local go_sem ↓] Go.wp_at_zero Go.wp_at_succ

theorem lsAt_in {us : List LsM} {k : Nat} (hk : k < us.length) (h : lsAt us k = true) : 0 ≤ us[k].seen ∧ us[k].seen ≤ 1000000000 := by
  unfold lsAt lsOne at h
  rw [getD_ls us k hk] at h
  simp only [Bool.and_eq_true] at h
  exact inI_iff.1 h.1.2
set_option maxRecDepth 100000 in
set_option maxHeartbeats 8000000 in
theorem specTakeLease (us : List LsM) (a : Option Addr) (cap : Nat) (p : ByteArray) (who now : Int) (w : World) (hr : LsRow w a us) (hl : us.length ≤ 1048576) (hf : ∀ u ∈ us, u.path.size ≤ 1048576) (hp : p.size ≤ 1048576) :
    Calls Try.prog 25 #[.slice a us.length cap, .string p, .int .i64 who, .int .i64 now] w fun e w' => LbPost (takeX us p who now) w e w' := by
  obtain ⟨i0, hin, hz0, hz1, hz2⟩ := info_parts infoLease
  have HR := Shut.mk hr
  have HCP := Shut.mk (specCopy16 us a cap w hr hl)
  have HLO := Shut.mk (fun (W : World) (hb : Below w.heap.size w W) => specLeasesOk us a cap W (hr.stays hb) hl hf)
  have HNM := Shut.mk (fun W => specNamed p W hp)
  have I3 := Shut.mk (fun W => isInI who 1 9 W _ rfl)
  have I4 := Shut.mk (fun W => isInI now 0 1000000000 W _ rfl)
  have HAL : Shut (leasesOk us = true → us.length ≤ 8 ∧ ∀ k (hk : k < us.length), 0 ≤ us[k].seen ∧ us[k].seen ≤ 1000000000) := ⟨fun h => ⟨leasesOk_len h, fun k hk => lsAt_in hk (leasesOk_at h k hk)⟩⟩
  have HNW : Shut (inI now 0 1000000000 = true → 0 ≤ now ∧ now ≤ 1000000000) := ⟨fun h => inI_iff.1 h⟩
  obtain ⟨RR, hRR⟩ : ∃ q, q = takeX us p who now := ⟨_, rfl⟩
  rw [← hRR]
  have HQ := Shut.mk hRR
  unfold takeX takeOk at HQ
  generalize leasesOk us = lo at HLO HQ HAL
  generalize named p = nm at HNM HQ
  generalize inI who 1 9 = b3 at I3 HQ
  generalize inI now 0 1000000000 = b4 at I4 HQ HNW
  unfold LsPost at HCP
  obtain ⟨n, hn⟩ : ∃ n, n = us.length := ⟨_, rfl⟩
  have HN := Shut.mk hn
  rw [← hn] at hl HCP HLO ⊢
  clear hr hf hp hn hRR
  go_enter Try.func25, Try.ntmps25
  go_upto_region 2 with (go_at_call 52; refine HCP.out.mono ?_; rintro e w1 ⟨a7, c7, rfl, hF, hc7, hb⟩; have H := Shut.mk ((SL.start w).add (s := rwS a7 (lsS us) w.heap.size w1.heap.size) hb hF (rwS.loc _ _ _ _) (Nat.le_refl _) (Nat.le_refl _)); clear hF hb)
  obtain ⟨hi, hhi⟩ : ∃ q, q = w1.heap.size := ⟨_, rfl⟩
  rw [← hhi] at H
  clear hhi HCP
  cases lo with
  | false =>
    have HE : Shut (RR = (us, false)) := ⟨by rw [HQ.out]; rfl⟩
    go_wp2_with (go_at_call 22; (with_reducible refine (HLO.out _ H.out.bel).mono ?_); rintro e w2 ⟨rfl, hb⟩; replace H := Shut.mk (H.out.below hb); clear hb)
    go_ret2
    rw [HE.out]
    have hs := H.out.is _ (List.mem_cons_self ..)
    exact ⟨_, c7, by rw [HN.out]; rfl, frw_wide9 hs.1 hs.2.2.1 hs.2.2.2, by have := HN.out; show us.length ≤ c7; omega, H.out.bel⟩
  | true =>
  cases nm with
  | false =>
    have HE : Shut (RR = (us, false)) := ⟨by rw [HQ.out]; rfl⟩
    go_wp2_with (first | (go_at_call 22; (with_reducible refine (HLO.out _ H.out.bel).mono ?_); rintro e w2 ⟨rfl, hb⟩; replace H := Shut.mk (H.out.below hb); clear hb) | (go_at_call 49; (with_reducible refine (HNM.out _).mono ?_); rintro e w3 ⟨rfl, hb⟩; replace H := Shut.mk (H.out.below hb); clear hb))
    go_ret2
    rw [HE.out]
    have hs := H.out.is _ (List.mem_cons_self ..)
    exact ⟨_, c7, by rw [HN.out]; rfl, frw_wide9 hs.1 hs.2.2.1 hs.2.2.2, by have := HN.out; show us.length ≤ c7; omega, H.out.bel⟩
  | true =>
  cases b3 with
  | false =>
    have HE : Shut (RR = (us, false)) := ⟨by rw [HQ.out]; rfl⟩
    go_wp2_with (first | (go_at_call 22; (with_reducible refine (HLO.out _ H.out.bel).mono ?_); rintro e w2 ⟨rfl, hb⟩; replace H := Shut.mk (H.out.below hb); clear hb) | (go_at_call 49; (with_reducible refine (HNM.out _).mono ?_); rintro e w3 ⟨rfl, hb⟩; replace H := Shut.mk (H.out.below hb); clear hb) | (go_at_call 47; (with_reducible refine (I3.out _).mono ?_); rintro e w4 ⟨rfl, rfl⟩))
    go_ret2
    rw [HE.out]
    have hs := H.out.is _ (List.mem_cons_self ..)
    exact ⟨_, c7, by rw [HN.out]; rfl, frw_wide9 hs.1 hs.2.2.1 hs.2.2.2, by have := HN.out; show us.length ≤ c7; omega, H.out.bel⟩
  | true =>
  cases b4 with
  | false =>
    have HE : Shut (RR = (us, false)) := ⟨by rw [HQ.out]; rfl⟩
    go_wp2_with (first | (go_at_call 22; (with_reducible refine (HLO.out _ H.out.bel).mono ?_); rintro e w2 ⟨rfl, hb⟩; replace H := Shut.mk (H.out.below hb); clear hb) | (go_at_call 49; (with_reducible refine (HNM.out _).mono ?_); rintro e w3 ⟨rfl, hb⟩; replace H := Shut.mk (H.out.below hb); clear hb) | (go_at_call 47; (with_reducible refine (I3.out _).mono ?_); rintro e w4 ⟨rfl, rfl⟩) | (go_at_call 47; (with_reducible refine (I4.out _).mono ?_); rintro e w5 ⟨rfl, rfl⟩))
    go_ret2
    rw [HE.out]
    have hs := H.out.is _ (List.mem_cons_self ..)
    exact ⟨_, c7, by rw [HN.out]; rfl, frw_wide9 hs.1 hs.2.2.1 hs.2.2.2, by have := HN.out; show us.length ≤ c7; omega, H.out.bel⟩
  | true =>
  simp only [Bool.and_self, if_true] at HQ
  replace HAL := Shut.mk (HAL.out rfl)
  obtain ⟨nw0, nw1⟩ := HNW.out rfl
  have hn8 : n ≤ 8 := by have := HAL.out.1; have := HN.out; omega
  go_upto_region 4 with (first | (go_at_call 22; (with_reducible refine (HLO.out _ H.out.bel).mono ?_); rintro e w2 ⟨rfl, hb⟩; replace H := Shut.mk (H.out.below hb); clear hb) | (go_at_call 49; (with_reducible refine (HNM.out _).mono ?_); rintro e w3 ⟨rfl, hb⟩; replace H := Shut.mk (H.out.below hb); clear hb) | (go_at_call 47; (with_reducible refine (I3.out _).mono ?_); rintro e w4 ⟨rfl, rfl⟩) | (go_at_call 47; (with_reducible refine (I4.out _).mono ?_); rintro e w5 ⟨rfl, rfl⟩))
  clear HLO HNM I3 I4 HNW
  go_wp2_with fail
  go_loop [11] (fun i9 => ∃ (k : Nat), i9 = .int .i64 k ∧ k ≤ n ∧ Shut (∀ j (hj : j < us.length), j < k → (us[j].path.toList == p.toList) = false)) (fun i9 => n - (intOf i9).toNat)
  case atStart => exact ⟨0, rfl, Nat.zero_le _, ⟨fun j _ hj => by omega⟩⟩
  case round =>
    obtain ⟨k, rfl, hk, HG⟩ := hrel
    by_cases hlt : k < n
    · have hku : k < us.length := by rw [← HN.out]; exact hlt
      obtain ⟨g, rfl, g1, g2, hw⟩ := frw_row (show FRw _ a7 (lsS us) w.heap.size hi from H.out.at 0 rfl) hku
      have p0 := (hw.2 (k * 3) _ (flat_get lsC_len us k hku 0 (by omega))).1
      obtain ⟨p1, z1⟩ := hw.2 (k * 3 + 1) _ (flat_get lsC_len us k hku 1 (by omega))
      obtain ⟨p2, z2⟩ := hw.2 (k * 3 + 2) _ (flat_get lsC_len us k hku 2 (by omega))
      have HWC := Shut.mk (And.intro g1 (And.intro g2 hw))
      have HNX : Shut ((us[k].path.toList == p.toList) = false → ∀ j (hj : j < us.length), j < k + 1 → (us[j].path.toList == p.toList) = false) := ⟨fun h j hj hjk => by
        rcases Nat.lt_succ_iff_lt_or_eq.1 hjk with e | e
        · exact HG.out j hj e
        · subst e; exact h⟩
      have HQ2 : Shut ((us[k].path.toList == p.toList) = true → RR = if us[k].who ≠ who ∧ now - us[k].seen < 5 then (us, false) else (us.set k ⟨us[k].path, who, now⟩, true)) := ⟨fun h => by
        rw [HQ.out, lsIdx_found hku h HG.out, if_pos hku, getD_ls us k hku]⟩
      obtain ⟨s0, s1⟩ := HAL.out.2 k hku
      obtain ⟨u, hu⟩ : ∃ u, u = us[k] := ⟨_, rfl⟩
      have HU := Shut.mk hu
      have p0' : _ = some (Value.string us[k].path) := p0
      have p1' : _ = some (Value.int .i64 us[k].who) := p1
      have p2' : _ = some (Value.int .i64 us[k].seen) := p2
      rw [← hu] at p0' p1' p2' HNX HQ2 s0 s1
      clear p0 p1 p2 g1 g2 hw hu
      have k0 : (0 : Int) ≤ (k : Int) := by omega
      have k1 : (k : Int) < (n : Int) := by omega
      cases hq : u.path.toList == p.toList with
      | false =>
        have hq' : (u.path.toList != p.toList) = true := by rw [bne, hq]; rfl
        have HX := Shut.mk (HNX.out hq)
        go_wp2_with fail
        go_round
        case rel => exact ⟨k + 1, by go_num, by omega, HX⟩
        case measure => simp [intOf]; omega
      | true =>
        have hq' : (u.path.toList != p.toList) = false := by rw [bne, hq]; rfl
        replace HQ2 := Shut.mk (HQ2.out hq)
        by_cases hwh : u.who = who
        · have hw' : (u.who != who) = false := by simpa using hwh
          have HE : Shut (RR = (us.set k ⟨u.path, who, now⟩, true)) := ⟨by rw [HQ2.out, if_neg (fun h => h.1 hwh)]⟩
          clear hwh
          go_wp2_with fail
          go_ret2
          rw [HE.out]
          have q1 := (HWC.out.2.2.set (k * 3 + 1) (.int .i64 who) (by rw [lsS_len]; omega)).set (k * 3 + 2) (.int .i64 now) (by rw [List.length_set, lsS_len]; omega)
          rw [lss_both us k hku who now, ← HU.out] at q1
          have hs := H.out.is _ (List.mem_cons_self ..)
          have hg1 := HWC.out.1
          have hg2 := HWC.out.2.1
          have hle : hi ≤ _ := hs.2.2.2
          exact ⟨some ⟨g, 0, none⟩, c7, by show _ = Ending.returned (.tuple #[.slice _ (us.set k _).length c7, .bool true]); rw [List.length_set, ← HN.out]; rfl, .inr ⟨g, rfl, hg1, by simp [World.setCell]; omega, q1⟩, by have := HN.out; show (us.set k _).length ≤ c7; rw [List.length_set]; omega, (H.out.bel.setCell (p := ⟨g, k * 3 + 1, none⟩) hg1 _).setCell (p := ⟨g, k * 3 + 2, none⟩) hg1 _⟩
        · have hw' : (u.who != who) = true := by simpa using hwh
          by_cases hold : now - u.seen < 5
          · have hold' : decide (now - u.seen < 5) = true := by simpa using hold
            have HE : Shut (RR = (us, false)) := ⟨by rw [HQ2.out, if_pos ⟨hwh, hold⟩]⟩
            clear hwh
            go_wp2_with fail
            go_ret2
            rw [HE.out]
            have hs := H.out.is _ (List.mem_cons_self ..)
            exact ⟨_, c7, by rw [HN.out]; rfl, frw_wide9 hs.1 hs.2.2.1 hs.2.2.2, by have := HN.out; show us.length ≤ c7; omega, H.out.bel⟩
          · have hold' : decide (now - u.seen < 5) = false := by simpa using hold
            have HE : Shut (RR = (us.set k ⟨u.path, who, now⟩, true)) := ⟨by rw [HQ2.out, if_neg (fun h => hold h.2)]⟩
            clear hwh
            go_wp2_with fail
            go_ret2
            rw [HE.out]
            have q1 := (HWC.out.2.2.set (k * 3 + 1) (.int .i64 who) (by rw [lsS_len]; omega)).set (k * 3 + 2) (.int .i64 now) (by rw [List.length_set, lsS_len]; omega)
            rw [lss_both us k hku who now, ← HU.out] at q1
            have hs := H.out.is _ (List.mem_cons_self ..)
            have hg1 := HWC.out.1
            have hg2 := HWC.out.2.1
            have hle : hi ≤ _ := hs.2.2.2
            exact ⟨some ⟨g, 0, none⟩, c7, by show _ = Ending.returned (.tuple #[.slice _ (us.set k _).length c7, .bool true]); rw [List.length_set, ← HN.out]; rfl, .inr ⟨g, rfl, hg1, by simp [World.setCell]; omega, q1⟩, by have := HN.out; show (us.set k _).length ≤ c7; rw [List.length_set]; omega, (H.out.bel.setCell (p := ⟨g, k * 3 + 1, none⟩) hg1 _).setCell (p := ⟨g, k * 3 + 2, none⟩) hg1 _⟩
    · obtain rfl : n = k := by omega
      replace HQ : Shut (RR = if us.length = 8 then (us, false) else (lsLow us p ++ [(⟨p, who, now⟩ : LsM)] ++ lsHigh us p, true)) := ⟨by rw [HQ.out, lsIdx_none fun j hj => HG.out j hj (by have := HN.out; omega), if_neg (Nat.lt_irrefl _)]⟩
      by_cases h8 : n = 8
      · have h8' : ((n : Int) == 8) = true := by simp; omega
        have HE : Shut (RR = (us, false)) := ⟨by rw [HQ.out, if_pos (by rw [← HN.out]; exact h8)]⟩
        clear h8
        go_wp2_with fail
        go_ret2
        rw [HE.out]
        have hs := H.out.is _ (List.mem_cons_self ..)
        exact ⟨_, c7, by rw [HN.out]; rfl, frw_wide9 hs.1 hs.2.2.1 hs.2.2.2, by have := HN.out; show us.length ≤ c7; omega, H.out.bel⟩
      · have h8' : ((n : Int) == 8) = false := by simp; omega
        have HE : Shut (RR = (lsLow us p ++ [(⟨p, who, now⟩ : LsM)] ++ lsHigh us p, true)) := ⟨by rw [HQ.out, if_neg (by rw [← HN.out]; exact h8)]⟩
        have HOLD := Shut.mk (OwS.new (ty := 35) (sz := 3) H.out.tail)
        clear h8 HQ
        go_wp2_with fail
        go_loopw [12, 13] (fun v9 i9 wr => ∃ (k m : Nat) (L : List LsM), i9 = .int .i64 k ∧ k ≤ n ∧ m ≤ k ∧ Shut (L = ((us.take k).filter (fun f => lt9 f.path p)) ∧ m = L.length) ∧ Shut (OwS w wr [] 35 3 v9 m (lsS L))) (fun _ i9 _ => n - (intOf i9).toNat)
        case atStart => exact ⟨0, 0, [], rfl, Nat.zero_le _, Nat.le_refl _, ⟨by simp⟩, HOLD⟩
        case round =>
          clear HOLD
          obtain ⟨k, m, L, rfl, hk, hm, HL, HW⟩ := hrel
          obtain ⟨av, cv, rfl⟩ := own_row_slice HW.out.own
          by_cases hlt : k < n
          · have hku : k < us.length := by rw [← HN.out]; exact hlt
            obtain ⟨b, off, x, rfl, hx, lb, hc⟩ := ls_at HR.out HW.out.sl.bel hku
            obtain ⟨d0, d1, d2⟩ := hc wr (Below.refl _ _)
            have k0 : (0 : Int) ≤ (k : Int) := by omega
            have k1 : (k : Int) < (n : Int) := by omega
            have lbw : b < wr.heap.size := Nat.lt_of_lt_of_le lb HW.out.sl.bel.size
            have HNX : Shut ((us.take (k + 1)).filter (fun f => lt9 f.path p) = (us.take k).filter (fun f => lt9 f.path p) ++ if lt9 x.path p = true then [x] else []) := ⟨by rw [hx]; exact filter_take _ us k hku⟩
            have HXX := Shut.mk hx
            clear hc hx
            cases hq : lt9 x.path p with
            | false =>
              have hq' : Op.bytesLess x.path.toList p.toList = false := hq
              rw [hq] at HNX
              go_wp2_with fail
              go_roundw
              case rel => exact ⟨k + 1, m, L, by go_num, by omega, by omega, ⟨by rw [HNX.out]; simpa using HL.out⟩, HW⟩
              case measure => simp [intOf]; omega
            | true =>
              have hq' : Op.bytesLess x.path.toList p.toList = true := hq
              rw [hq] at HNX
              have hown := HW.out.own
              have hbs := HW.out.sl.bel.size
              go_wp2_with (at_builtin; refine wpList_append_own_at _ rfl _ _ 24 rfl w.heap.size 35 i0 _ 3 32 Try.underlying24 hin hz0 hz1 hz2 rfl (by decide) _ _ _ rfl (hown.alloc _) ⟨wr.heap.size, 0, none⟩ 1 1 [.string x.path, .int .i64 x.who, .int .i64 x.seen] rfl rfl (World.news_of_block (cs := #[.string x.path, .int .i64 x.who, .int .i64 x.seen]) (t := 35) (fr := (0, 0)) (heap_alloc_new wr _)) ?c25 ?c35 ?c45 ?c55 ?_)
              case c25 => simp [Value.oneCell']
              case c35 => unfold maxLen; omega
              case c45 => omega
              case c55 => first | omega | (simp; omega)
              intro v5 w5 ho hg _ hat
              have HL5 := Shut.mk (HW.out.more ((Below.refl _ _).alloc (Nat.le_refl _) _) ho hg (by simpa using hat))
              clear ho hg hat hown hbs
              go_wp2_with fail
              go_roundw
              case rel => exact ⟨k + 1, m + 1, L ++ [x], by go_num, by omega, by omega, ⟨⟨by rw [HNX.out]; simp only [if_true]; rw [← HL.out.1], by rw [List.length_append, ← HL.out.2]; rfl⟩⟩, ⟨by rw [lss_snoc]; exact HL5.out⟩⟩
              case measure => simp [intOf]; omega
          · obtain rfl : n = k := by omega
            have HLN : Shut (L = (us.filter (fun f => lt9 f.path p)) ∧ m = L.length) := ⟨by have := HL.out; rwa [List.take_of_length_le (by have := HN.out; omega)] at this⟩
            clear HL hlt
            have HL1N := HLN
            clear HLN
            obtain ⟨L1, hL1⟩ : ∃ q, q = L ++ [(⟨p, who, now⟩ : LsM)] := ⟨_, rfl⟩
            obtain ⟨m1, hm1⟩ : ∃ q, q = m + 1 := ⟨_, rfl⟩
            have hown := HW.out.own
            have hbs := HW.out.sl.bel.size
            go_wp2_with (at_builtin; refine wpList_append_own_at _ rfl _ _ 24 rfl w.heap.size 35 i0 _ 3 32 Try.underlying24 hin hz0 hz1 hz2 rfl (by decide) _ _ _ rfl (hown.alloc _) ⟨wr.heap.size, 0, none⟩ 1 1 [.string p, .int .i64 who, .int .i64 now] rfl rfl (World.news_of_block (cs := #[.string p, .int .i64 who, .int .i64 now]) (t := 35) (fr := (0, 0)) (heap_alloc_new wr _)) ?c27 ?c37 ?c47 ?c57 ?_)
            case c27 => simp [Value.oneCell']
            case c37 => unfold maxLen; omega
            case c47 => omega
            case c57 => first | omega | (simp; omega)
            intro v7 w7 ho hg _ hat
            have HL7 := Shut.mk (HW.out.more ((Below.refl _ _).alloc (Nat.le_refl _) _) ho hg (by simpa using hat))
            clear ho hg hat hown hbs
            replace HL1N : Shut (L1 = us.filter (fun f => lt9 f.path p) ++ [(⟨p, who, now⟩ : LsM)] ∧ m1 = L1.length) := ⟨by rw [hL1, hm1, List.length_append, ← HL1N.out.2, HL1N.out.1]; exact ⟨rfl, rfl⟩⟩
            have HOLD : Shut (OwS w w7 [] 35 3 v7 m1 (lsS L1)) := ⟨by rw [hL1, hm1, lss_snoc]; exact HL7.out⟩
            have hm9 : m1 ≤ n + 1 := by omega
            clear hL1 hm1 HL7 HW hm
            go_wp2_with fail
            go_loopw [12, 14] (fun v9 i9 wr => ∃ (k m : Nat) (L : List LsM), i9 = .int .i64 k ∧ k ≤ n ∧ m ≤ m1 + k ∧ Shut (L = L1 ++ ((us.take k).filter (fun f => !(lt9 f.path p) && !(f.path.toList == p.toList))) ∧ m = L.length) ∧ Shut (OwS w wr [] 35 3 v9 m (lsS L))) (fun _ i9 _ => n - (intOf i9).toNat)
            case atStart => exact ⟨0, m1, L1, rfl, Nat.zero_le _, Nat.le_refl _, ⟨by simpa using HL1N.out.2⟩, HOLD⟩
            case round =>
              clear HOLD
              obtain ⟨k, m, L, rfl, hk, hm, HL, HW⟩ := hrel
              obtain ⟨av, cv, rfl⟩ := own_row_slice HW.out.own
              by_cases hlt : k < n
              · have hku : k < us.length := by rw [← HN.out]; exact hlt
                obtain ⟨b, off, x, rfl, hx, lb, hc⟩ := ls_at HR.out HW.out.sl.bel hku
                obtain ⟨d0, d1, d2⟩ := hc wr (Below.refl _ _)
                have k0 : (0 : Int) ≤ (k : Int) := by omega
                have k1 : (k : Int) < (n : Int) := by omega
                have lbw : b < wr.heap.size := Nat.lt_of_lt_of_le lb HW.out.sl.bel.size
                have HNX : Shut ((us.take (k + 1)).filter (fun f => !(lt9 f.path p) && !(f.path.toList == p.toList)) = (us.take k).filter (fun f => !(lt9 f.path p) && !(f.path.toList == p.toList)) ++ if (!(lt9 x.path p) && !(x.path.toList == p.toList)) = true then [x] else []) := ⟨by rw [hx]; exact filter_take _ us k hku⟩
                have HXX := Shut.mk hx
                clear hc hx
                have hq9 : (x.path.toList == p.toList) = false := by rw [HXX.out]; exact HG.out k hku (by omega)
                cases hq : (!(lt9 x.path p) && !(x.path.toList == p.toList)) with
                | false =>
                  have hq' : Op.bytesLess x.path.toList p.toList = true := by rw [hq9] at hq; simpa using hq
                  rw [hq] at HNX
                  go_wp2_with fail
                  go_roundw
                  case rel => exact ⟨k + 1, m, L, by go_num, by omega, by omega, ⟨by rw [HNX.out]; simpa using HL.out⟩, HW⟩
                  case measure => simp [intOf]; omega
                | true =>
                  have hq' : Op.bytesLess x.path.toList p.toList = false := by rw [hq9] at hq; simpa using hq
                  rw [hq] at HNX
                  have hown := HW.out.own
                  have hbs := HW.out.sl.bel.size
                  go_wp2_with (at_builtin; refine wpList_append_own_at _ rfl _ _ 24 rfl w.heap.size 35 i0 _ 3 32 Try.underlying24 hin hz0 hz1 hz2 rfl (by decide) _ _ _ rfl (hown.alloc _) ⟨wr.heap.size, 0, none⟩ 1 1 [.string x.path, .int .i64 x.who, .int .i64 x.seen] rfl rfl (World.news_of_block (cs := #[.string x.path, .int .i64 x.who, .int .i64 x.seen]) (t := 35) (fr := (0, 0)) (heap_alloc_new wr _)) ?c26 ?c36 ?c46 ?c56 ?_)
                  case c26 => simp [Value.oneCell']
                  case c36 => unfold maxLen; omega
                  case c46 => omega
                  case c56 => first | omega | (simp; omega)
                  intro v6 w6 ho hg _ hat
                  have HL6 := Shut.mk (HW.out.more ((Below.refl _ _).alloc (Nat.le_refl _) _) ho hg (by simpa using hat))
                  clear ho hg hat hown hbs
                  go_wp2_with fail
                  go_roundw
                  case rel => exact ⟨k + 1, m + 1, L ++ [x], by go_num, by omega, by omega, ⟨⟨by rw [HNX.out]; simp only [if_true]; rw [← List.append_assoc, ← HL.out.1], by rw [List.length_append, ← HL.out.2]; rfl⟩⟩, ⟨by rw [lss_snoc]; exact HL6.out⟩⟩
                  case measure => simp [intOf]; omega
              · obtain rfl : n = k := by omega
                have HLN : Shut (L = L1 ++ (us.filter (fun f => !(lt9 f.path p) && !(f.path.toList == p.toList))) ∧ m = L.length) := ⟨by have := HL.out; rwa [List.take_of_length_le (by have := HN.out; omega)] at this⟩
                clear HL hlt
                obtain ⟨a8, c8, e8, hf8, hc8⟩ := HW.out.frw
                obtain ⟨rfl, rfl⟩ : av = a8 ∧ cv = c8 := by simpa using e8
                have HF8 := Shut.mk hf8
                have HPE : Shut (L = lsLow us p ++ [(⟨p, who, now⟩ : LsM)] ++ lsHigh us p) := ⟨by rw [HLN.out.1, HL1N.out.1]; rfl⟩
                clear hf8 e8
                go_wp2_with fail
                go_ret2
                rw [HE.out, ← HPE.out]
                exact ⟨av, cv, by show _ = Ending.returned (.tuple #[.slice _ L.length cv, .bool true]); rw [← HLN.out.2]; rfl, HF8.out, by show L.length ≤ cv; rw [← HLN.out.2]; exact hc8, HW.out.sl.bel⟩
end Go.Proofs.Ytcnjjbgilpgceaa
/- SpR: The model's HolderOf. -/
namespace Go.Proofs.Ytcnjjbgilpgceaa
set_option maxRecDepth 100000
open Go.RowKit BigFrame
attribute [local go_sem ↓] Go.wp_at_zero Go.wp_at_succ

set_option maxHeartbeats 2000000 in
theorem specHolderOf (us : List LsM) (a : Option Addr) (cap : Nat) (p : ByteArray) (w : World) (hr : LsRow w a us) (hl : us.length ≤ 1048576) :
    Calls Try.prog 33 #[.slice a us.length cap, .string p] w fun e w' => e = .returned (.int .i64 (holderX us p)) ∧ w' = w := by
  have HR := Shut.mk hr
  obtain ⟨n, hn⟩ : ∃ n, n = us.length := ⟨_, rfl⟩
  have HN := Shut.mk hn
  rw [← hn] at hl ⊢
  clear hr hn
  obtain ⟨R, hR⟩ : ∃ R, R = holderX us p := ⟨_, rfl⟩
  rw [← hR]
  have HQ := Shut.mk hR
  unfold holderX at HQ
  clear hR
  go_enter Try.func33, Try.ntmps33
  go_wp2_with fail
  go_loop [5] (fun i9 => ∃ (k : Nat), i9 = .int .i64 k ∧ k ≤ n ∧ Shut (∀ j (hj : j < us.length), j < k → (us[j].path.toList == p.toList) = false)) (fun i9 => n - (intOf i9).toNat)
  case atStart => exact ⟨0, rfl, Nat.zero_le _, ⟨fun j _ hj => by omega⟩⟩
  case round =>
    obtain ⟨k, rfl, hk, HG⟩ := hrel
    by_cases hlt : k < n
    · have hku : k < us.length := by rw [← HN.out]; exact hlt
      obtain ⟨b, off, u, rfl, hu, lb, hc⟩ := ls_at HR.out (Below.refl _ _) hku
      obtain ⟨d0, d1, d2⟩ := hc _ (Below.refl _ _)
      have HF : Shut ((u.path.toList == p.toList) = true → R = u.who) := ⟨fun h => by rw [hu] at h; rw [HQ.out, lsIdx_found hku h HG.out, if_pos hku, getD_ls us k hku, hu]⟩
      have HNX : Shut ((u.path.toList == p.toList) = false → ∀ j (hj : j < us.length), j < k + 1 → (us[j].path.toList == p.toList) = false) := ⟨fun h j hj hjk => by
        rcases Nat.lt_succ_iff_lt_or_eq.1 hjk with e | e
        · exact HG.out j hj e
        · subst e; rw [hu] at h; exact h⟩
      have k0 : (0 : Int) ≤ (k : Int) := by omega
      have k1 : (k : Int) < (n : Int) := by omega
      clear hc hu d2
      cases hq : u.path.toList == p.toList with
      | false =>
        have HX := Shut.mk (HNX.out hq)
        go_wp2_with fail
        go_round
        case rel => exact ⟨k + 1, by go_num, by omega, HX⟩
        case measure => simp [intOf]; omega
      | true =>
        have HX := Shut.mk (HF.out hq)
        go_wp2_with fail
        go_ret
        exact ⟨by rw [HX.out]; rfl, rfl⟩
    · obtain rfl : n = k := by omega
      have HX : Shut (R = 0) := ⟨by rw [HQ.out, lsIdx_none fun j hj => HG.out j hj (by have := HN.out; omega), if_neg (Nat.lt_irrefl _)]⟩
      go_wp2_with fail
      go_ret
      exact ⟨by rw [HX.out]; rfl, rfl⟩
end Go.Proofs.Ytcnjjbgilpgceaa
