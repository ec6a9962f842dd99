/- Texts of ours, laid one behind the other: OffB, PaK, LawPth, FrT, OpenC, LawPts, PaL, HasN, LtA, LtB, MuL, ClS, SpP. -/
import Derived.Test.YtcnjjbgilpgceaaPm5
import Derived.ArgAppend
import Derived.Test.YtcnjjbgilpgceaaShelf
import Derived.OpenShut
import Derived.Handy
import Derived.Test.YtcnjjbgilpgceaaRows
import Derived.Conc.MuLone
import Derived.KernelRfl
import Derived.Deep.AppendLies
/- OffB: Rows of texts that the call made, from any place of their block on: made longer; what answers of texts and a flag are. -/
namespace Go.Proofs.Ytcnjjbgilpgceaa
set_option maxRecDepth 100000
open Go.RowKit

/-- A text in a slice of which more is there than its length. -/
def CSee (w : World) (v : Value) (L : List ByteArray) (lo hi : Nat) : Prop := ∃ (a : Option Addr) (cap : Nat), v = .slice a L.length cap ∧ L.length ≤ cap ∧ RRow w a (tv L) lo hi
theorem CSee.see {w : World} {v : Value} {L : List ByteArray} {lo hi : Nat} (h : CSee w v L lo hi) : SSee w v L lo hi := by
  obtain ⟨a, cap, e, _, h1⟩ := h
  exact ⟨a, cap, e, h1⟩
theorem OAns.csee {w : World} {v : Value} {L : List ByteArray} {lo hi : Nat} (h : OAns w v L lo hi) : CSee w v L lo hi := by
  obtain ⟨a, cap, e, hr⟩ := h.see
  obtain ⟨a', cap', e', hc, _⟩ := h
  rw [e] at e'
  cases e'
  exact ⟨a, cap, e, hc, hr⟩
/-- A row of texts of the call's own, from any place of its block on. -/
def OwnAt (w : World) (base : Nat) (v : Value) (n : Nat) (L : List ByteArray) : Prop :=
  L.length = n ∧ ((v = .slice none 0 0 ∧ n = 0) ∨ ∃ g off cap, v = .slice (some ⟨g, off, none⟩) n cap ∧ base ≤ g ∧ n ≤ cap ∧ (∀ j, j < cap → (w.cell? ⟨g, off + j, none⟩).isSome = true ∧ w.frozen? ⟨g, off + j, none⟩ = false) ∧ OCells w g off L)
theorem OwnAt.nil (w : World) (base : Nat) : OwnAt w base (.slice none 0 0) 0 [] := ⟨rfl, .inl ⟨rfl, rfl⟩⟩
theorem own_cell1 {w : World} {g : Nat} {cur : Array Value} (hg : w.heap[g]? = some (.cells cur 9 (0, 0))) (j : Nat) (hj : j < cur.size) : (w.cell? ⟨g, j, none⟩).isSome = true ∧ w.frozen? ⟨g, j, none⟩ = false := by
  refine ⟨?_, ?_⟩
  · simp [World.cell?, hg, hj]
  · simp [World.frozen?, hg]
theorem own_tail {w : World} {base g n cap : Nat} {L : List ByteArray} {x : ByteArray} (h : w.ownsRow base 9 1 (.slice (some ⟨g, 0, none⟩) (n + 1) cap) (n + 1) (tv (x :: L))) : OwnAt w base (.slice (some ⟨g, 1, none⟩) n (cap - 1)) n L := by
  have hw := own_wcells h
  have hl := h.1
  rw [tv_len, List.length_cons] at hl
  rcases h.2 with ⟨e, _⟩ | ⟨g', cap', cur, e, hb, hg, hn, _, hs, _⟩
  · cases e
  · cases e
    refine ⟨by omega, .inr ⟨g, 1, cap - 1, rfl, hb, by omega, fun j hj => own_cell1 hg _ (by omega), hw.1, fun j hj => ?_⟩⟩
    have := hw.2 (1 + j) (.string (L.getD j ⟨#[]⟩)) (by rw [Nat.add_comm]; exact tv_get L j hj)
    exact this
theorem own_at {w : World} {base n : Nat} {v : Value} {L : List ByteArray} (h : w.ownsRow base 9 1 v n (tv L)) : OwnAt w base v n L := by
  have hl := h.1
  rw [tv_len] at hl
  rcases h.2 with ⟨e, h0⟩ | ⟨g, cap, cur, rfl, hb, hg, hn, _, hs, _⟩
  · exact ⟨by omega, .inl ⟨e, h0⟩⟩
  · have hw := own_wcells h
    refine ⟨by omega, .inr ⟨g, 0, cap, rfl, hb, hn, fun j hj => ?_, hw.1, fun j hj => ?_⟩⟩
    · rw [Nat.zero_add]; exact own_cell1 hg _ (by omega)
    · rw [Nat.zero_add]; exact hw.2 j _ (tv_get L j hj)
theorem OwnAt.oans {w : World} {base n : Nat} {v : Value} {L : List ByteArray} (h : OwnAt w base v n L) : OAns w v L base w.heap.size := by
  obtain ⟨hl, h | ⟨g, off, cap, e, hb, hn, _, hc⟩⟩ := h
  · obtain ⟨e, h0⟩ := h
    rw [h0] at hl
    rw [List.eq_nil_of_length_eq_zero hl]
    exact ⟨none, 0, e, Nat.le_refl _, .inl rfl⟩
  · exact ⟨_, cap, by rw [hl]; exact e, by omega, .inr ⟨g, off, rfl, hb, hc.1, hc⟩⟩
theorem OwnAt.lt {w : World} {base n : Nat} {v : Value} {L : List ByteArray} (h : OwnAt w base v n L) : ∀ k, v.ownBlock = some k → base ≤ k ∧ k < w.heap.size := by
  intro k hk
  obtain ⟨_, ⟨rfl, _⟩ | ⟨g, off, cap, rfl, hb, _, _, hc⟩⟩ := h
  · cases hk
  · cases hk; exact ⟨hb, hc.1⟩
theorem OwnAt.kept {w w' : World} {base n : Nat} {v : Value} {L : List ByteArray} (h : OwnAt w base v n L) (hs : w.heap.size ≤ w'.heap.size) (hb : ∀ k, v.ownBlock = some k → w'.heap[k]? = w.heap[k]?) : OwnAt w' base v n L := by
  obtain ⟨hl, h0 | ⟨g, off, cap, rfl, hbs, hn, hf, hc⟩⟩ := h
  · exact ⟨hl, .inl h0⟩
  · have e := hb g rfl
    exact ⟨hl, .inr ⟨g, off, cap, rfl, hbs, hn, fun j hj => by rw [World.cell?_of_block (a := ⟨g, off + j, none⟩) e, World.frozen?_of_block (a := ⟨g, off + j, none⟩) e]; exact hf j hj, hc.block hs e⟩⟩
theorem OwnAt.below {w w' : World} {base n : Nat} {v : Value} {L : List ByteArray} (h : OwnAt w base v n L) (hb : Below w.heap.size w w') : OwnAt w' base v n L := h.kept hb.size (fun k hk => hb.block k (h.lt k hk).2)
theorem OwnAt.alloc {w : World} {base n : Nat} {v : Value} {L : List ByteArray} (h : OwnAt w base v n L) (o : Obj) : OwnAt (w.alloc o) base v n L := h.below ((Below.refl _ _).alloc (Nat.le_refl _) _)
theorem isSome_set {w : World} {a p : Addr} {x : Value} (h : (w.cell? p).isSome = true) : ((w.setCell a x).cell? p).isSome = true := by
  obtain ⟨u, hu⟩ := Option.isSome_iff_exists.1 h
  by_cases e : p = a
  · subst e
    rw [World.cell?_setCell_same _ _ _ hu]; rfl
  · rw [World.cell?_setCell_other _ _ _ _ (Ne.symm e)]; exact h
theorem OCells.more {w : World} {g off : Nat} {L : List ByteArray} {x : ByteArray} (h : OCells w g off L) (hc : (w.cell? ⟨g, off + L.length, none⟩).isSome = true) (hf : w.frozen? ⟨g, off + L.length, none⟩ = false) : OCells (w.setCell ⟨g, off + L.length, none⟩ (.string x)) g off (L ++ [x]) := by
  refine ⟨by have := h.1; simpa [World.setCell] using this, fun j hj => ?_⟩
  rw [List.length_append, List.length_singleton] at hj
  obtain ⟨u, hu⟩ := Option.isSome_iff_exists.1 hc
  by_cases e : j = L.length
  · subst e
    refine ⟨?_, (World.frozen?_setCell _ _ _ _).trans hf⟩
    rw [World.cell?_setCell_same _ _ _ hu]
    simp [List.getD]
  · have hj' : j < L.length := by omega
    refine ⟨?_, (World.frozen?_setCell _ _ _ _).trans (h.2 j hj').2⟩
    rw [World.cell?_setCell_other _ _ _ _ (fun q => e (by have := congrArg Addr.off q; simp at this; omega)), (h.2 j hj').1]
    simp [List.getD, List.getElem?_append_left hj']
theorem grow_none {w w' : World} {r : Option Nat} (h : w.grownBy w' none) : w.grownBy w' r := ⟨h.os, h.tape, h.output, h.size, fun k hk _ => h.block k hk (by simp)⟩
theorem own_mono {w : World} {B B' n t : Nat} {v : Value} {L : List Value} (h : w.ownsRow B t 1 v n L) (hb : B' ≤ B) : w.ownsRow B' t 1 v n L :=
  ⟨h.1, h.2.imp id fun ⟨g, cap, cur, h1, h2, h3⟩ => ⟨g, cap, cur, h1, Nat.le_trans hb h2, h3⟩⟩
theorem run_append_off {w : World} {base n : Nat} {v : Value} {L : List ByteArray} (hown : OwnAt w base v n L) (ty : TypeId) (i : TypeInfo) (hi : Try.prog.info? 9 = some i) (hz : i.zero = some (.string ⟨#[]⟩)) (hsize : i.size = 1) (hby : i.bytes = 16)
    (ad : Addr) (c : Nat) (x : ByteArray) (hx : w.cell? (ad.add 0) = some (.string x)) (h63 : n + 1 ≤ 1000000) (hbase : base ≤ w.heap.size) :
    ∃ v' w', (Builtin.append_ #[32, 32] ty #[v, .slice (some ad) 1 c]).run Try.prog w = .ok v' w' ∧ OwnAt w' base v' (n + 1) (L ++ [x]) ∧ w.grownBy w' v.ownBlock := by
  have hnews : ∀ (j : Nat) u, [Value.string x][j]? = some u → w.cell? (ad.add j) = some u := fun j u hu => by
    cases j with
    | zero => cases hu; exact hx
    | succ j => cases hu
  have hone : ∀ u ∈ [Value.string x], u.oneCell' = true := fun u hu => by simp at hu; subst hu; rfl
  obtain ⟨hl, ⟨rfl, h0⟩ | ⟨g, off, cap, rfl, hb, hn, hf, hc⟩⟩ := hown
  · subst h0
    obtain ⟨v', w', hr, h2, h3, _, _⟩ := run_append_own_at (P := Try.prog) w base 32 ty 9 i (.string ⟨#[]⟩) 1 16 Try.underlying32 hi hz hsize hby rfl (by decide) (.slice none 0 0) 0 [] ⟨rfl, .inl ⟨rfl, rfl⟩⟩ ad 1 c [.string x] rfl hnews hone (by unfold maxLen; omega) (by omega) hbase
    refine ⟨v', w', hr, ?_, h3⟩
    rw [List.eq_nil_of_length_eq_zero hl]
    exact own_at h2
  · by_cases hr : n + 1 ≤ cap
    · have hcc := hf n (by omega)
      refine ⟨_, _, run_append_room_cells w (P := Try.prog) 32 ty 9 i Try.underlying32 hi g off n cap ad 1 c [.string x] (by rw [hsize]; rfl) hnews hone hr ?_ ?_, ?_, ?_⟩
      · intro j hj
        have : j = 0 := by simpa using hj
        subst this
        rw [hsize, Nat.mul_one, Nat.add_zero]
        exact hcc.1
      · intro j hj
        have : j = 0 := by simpa using hj
        subst this
        rw [hsize, Nat.mul_one, Nat.add_zero]
        exact hcc.2
      · rw [hsize, Nat.mul_one]
        refine ⟨by simp [hl], .inr ⟨g, off, cap, rfl, hb, hr, fun j hj => ⟨?_, ?_⟩, ?_⟩⟩
        · exact isSome_set (hf j hj).1
        · exact (World.frozen?_setCell _ _ _ _).trans (hf j hj).2
        · have := hc.more (x := x) (by rw [hl]; exact hcc.1) (by rw [hl]; exact hcc.2)
          rw [hl] at this
          exact this
      · exact grownBy_setCell _ _ _ _
    · have holds : ∀ (j : Nat) u, (tv L)[j]? = some u → w.cell? ((⟨g, off, none⟩ : Addr).add j) = some u := fun j u hu => by
        have hj : j < L.length := by
          have := (List.getElem?_eq_some_iff.1 hu).1
          rwa [tv_len] at this
        rw [tv_get L j hj] at hu
        cases hu
        rw [Addr.add_lit]
        exact (hc.2 j hj).1
      obtain ⟨v', w', hrun, r1, r2⟩ := run_append_arg_grows w (P := Try.prog) 32 ty 9 i (.string ⟨#[]⟩) 1 16 Try.underlying32 hi hz hsize hby rfl (by decide) ⟨g, off, none⟩ n cap (tv L) (by rw [tv_len, hl, Nat.mul_one]) holds ad 1 c [.string x] rfl hnews (by omega) (by unfold maxLen; omega) (by omega)
      rw [tv_snoc] at r1
      exact ⟨v', w', hrun, own_at (own_mono r1 hbase), grow_none r2⟩
theorem wpList_append_off {w : World} {ops : Array Oper} {rest : List Oper} {o : Oper} {a : Act} {Q : Exit → Act → World → Prop} (hgd : Region.wanted o (yielded ops a.tmps) = true) (s x : Operand)
    (ho : o.op = .call { callee := .builtin .append, args := #[s, x], argTypes := #[32, 32] })
    (base : Nat) (i : TypeInfo) (hi : Try.prog.info? 9 = some i) (hz : i.zero = some (.string ⟨#[]⟩)) (hsize : i.size = 1) (hby : i.bytes = 16)
    (v : Value) (n : Nat) (L : List ByteArray) (hs : a.eval s = v) (hown : OwnAt w base v n L)
    (ad : Addr) (c : Nat) (t : ByteArray) (hx : a.eval x = .slice (some ad) 1 c) (hc : w.cell? (ad.add 0) = some (.string t)) (h63 : n + 1 ≤ 1000000) (hbase : base ≤ w.heap.size)
    (h : ∀ v' w', OwnAt w' base v' (n + 1) (L ++ [t]) → w.grownBy w' v.ownBlock → wpList Try.prog ops Q rest (a.put o.dst v') w') :
    wpList Try.prog ops Q (o :: rest) a w := by
  obtain ⟨v', w', hr, h2, h3⟩ := run_append_off hown o.type i hi hz hsize hby ad c t hc h63 hbase
  show if Region.wanted o (yielded ops a.tmps) = true then _ else _
  rw [if_pos hgd]
  left
  unfold Oper.wp execOp
  simp only [ho, resolve, invoke, builtin, Sem.run_bind, Sem.run_pure, Result.andThen_ok, List.map_toArray, List.map_cons, List.map_nil, hs, hx, hr]
  exact h v' w' h2 h3
/-- What an answer of texts and a flag is, in a row that may be made longer, wherever in its block. -/
def QPost (R : List ByteArray × Bool) (w : World) (e : Ending) (w' : World) : Prop := ∃ v, e = .returned (.tuple #[v, .bool R.2]) ∧ OwnAt w' w.heap.size v R.1.length R.1 ∧ Below w.heap.size w w'
theorem QPost.none {R : List ByteArray × Bool} {b : Bool} {w w' : World} (h : R = ([], b)) (hb : Below w.heap.size w w') : QPost R w (.returned (.tuple #[.slice none 0 0, .bool b])) w' := by
  unfold QPost
  rw [h]
  exact ⟨_, rfl, OwnAt.nil _ _, hb⟩
end Go.Proofs.Ytcnjjbgilpgceaa
/- PaK: The program's own SplitPath. -/
namespace Go.Proofs.Ytcnjjbgilpgceaa
set_option maxRecDepth 100000
open Go.RowKit
open Go.PlainAid (bt)
attribute [local go_sem ↓] Go.wp_at_zero Go.wp_at_succ

theorem split_parts {p x : ByteArray} {L : List ByteArray} (hp : p ≠ ⟨#[47]⟩) (h : (segs (lb p)).map ba = x :: L) : splitB p = if x.size = 0 ∧ 1 ≤ L.length ∧ L.length ≤ 4 ∧ (∀ s ∈ L, nameB s = true) then (L, true) else ([], false) := by
  unfold splitB
  cases e : lb p with
  | nil =>
    rw [e] at h
    simp only [segs, List.map_cons, List.map_nil, List.cons.injEq] at h
    rw [← h.2, if_neg (fun q => by have := q.2.1; simp at this)]
    rfl
  | cons c r =>
    rw [e] at h
    by_cases hc : c = 47
    · subst hc
      have hr : r ≠ [] := fun q => by
        subst q
        apply hp
        have := congrArg ba e
        rwa [ba_lb] at this
      have e1 : segs (47 :: r) = [] :: segs r := by simp [segs]
      rw [e1, List.map_cons, List.cons.injEq] at h
      obtain ⟨h1, h2⟩ := h
      have hx : x.size = 0 := by rw [← h1]; rfl
      have hlen : L.length = (segs r).length := by rw [← h2, List.length_map]
      have hpos : 1 ≤ L.length := by
        rw [hlen]
        exact List.length_pos_iff.2 (segs_ne r)
      have hall : (∀ s ∈ L, nameB s = true) ↔ (segs r).all nameL = true := by
        rw [← h2, List.all_eq_true]
        constructor
        · intro q l hl
          have := q (ba l) (List.mem_map.2 ⟨l, hl, rfl⟩)
          unfold nameB at this
          rwa [lb_ba] at this
        · intro q s hs
          obtain ⟨l, hl, rfl⟩ := List.mem_map.1 hs
          unfold nameB
          rw [lb_ba]
          exact q l hl
      have es : splitP (47 :: r) = if (segs r).all nameL = true ∧ (segs r).length ≤ 4 then (segs r, true) else ([], false) := by
        unfold splitP
        simp only
        rw [if_pos trivial, if_neg hr]
      rw [es]
      by_cases q : (segs r).all nameL = true ∧ (segs r).length ≤ 4
      · rw [if_pos q, if_pos ⟨hx, hpos, by omega, hall.2 q.1⟩]
        simp only
        rw [h2]
      · rw [if_neg q, if_neg (fun k => q ⟨hall.1 k.2.2.2, by have := k.2.2.1; omega⟩)]
        rfl
    · have e2 : splitP (c :: r) = ([], false) := by unfold splitP; exact if_neg hc
      rw [e2]
      obtain ⟨y, t, ht⟩ : ∃ y t, segs r = y :: t := by
        cases q : segs r with
        | nil => exact absurd q (segs_ne r)
        | cons y t => exact ⟨y, t, rfl⟩
      rw [segs_cons hc ht, List.map_cons, List.cons.injEq] at h
      have hx : x.size ≠ 0 := by
        rw [← h.1]
        show (c :: y).toArray.size ≠ 0
        simp
      rw [if_neg (fun k => hx k.1)]
      rfl
theorem parts_ne (p : ByteArray) : ∃ x L, (segs (lb p)).map ba = x :: L := by
  cases q : segs (lb p) with
  | nil => exact absurd q (segs_ne _)
  | cons y t => exact ⟨ba y, t.map ba, rfl⟩
theorem strClone9 (s : ByteArray) (w : World) (h : s.size ≤ 281474976710656) : Calls Try.prog 61 #[.string s] w fun e w' => e = .returned (.string s) ∧ Below w.heap.size w w' := by
  go_enter Try.func61, Try.ntmps61
  go_wp2_with fail
  refine (Try.stringslite_Clone s _ h).mono ?_
  rintro e w1 ⟨rfl, hb⟩
  go_wp2_with fail
  go_ret
  exact ⟨rfl, hb⟩
theorem OwnAt.same {w : World} {base g off n cap k : Nat} {L : List ByteArray} (h : OwnAt w base (.slice (some ⟨g, off, none⟩) n cap) n L) (hk : k < L.length) : OwnAt (w.setCell ⟨g, off + k, none⟩ (.string (L.getD k ⟨#[]⟩))) base (.slice (some ⟨g, off, none⟩) n cap) n L := by
  obtain ⟨hl, h | ⟨g', off', cap', e, hb, hn, hf, hc⟩⟩ := h
  · cases h.1
  · cases e
    have hs := hc.set k (L.getD k ⟨#[]⟩) hk
    have e2 : L.set k (L.getD k ⟨#[]⟩) = L := by
      have : L.getD k ⟨#[]⟩ = L[k] := by simp [List.getD, hk]
      rw [this]
      exact List.set_getElem_self hk
    rw [e2] at hs
    exact ⟨hl, .inr ⟨g, off, cap, rfl, hb, hn, fun j hj => ⟨isSome_set (hf j hj).1, (World.frozen?_setCell _ _ _ _).trans (hf j hj).2⟩, hs⟩⟩
theorem seg_small (p : ByteArray) : ∀ s ∈ (segs (lb p)).map ba, s.size ≤ p.size := by
  have h : ∀ (l : List UInt8), ∀ t ∈ segs l, t.length ≤ l.length := by
    intro l
    induction l with
    | nil => intro t ht; simp [segs] at ht; subst ht; simp
    | cons c r ih =>
      intro t ht
      unfold segs at ht
      split at ht
      · rcases List.mem_cons.1 ht with rfl | q
        · simp
        · have := ih t q; simp; omega
      · split at ht
        · rename_i q; exact absurd q (segs_ne r)
        · rename_i y u q
          rcases List.mem_cons.1 ht with rfl | k
          · have := ih y (by rw [q]; simp); simp; omega
          · have := ih t (by rw [q]; simp [k]); simp; omega
  intro s hs
  obtain ⟨l, hl, rfl⟩ := List.mem_map.1 hs
  exact h _ l hl
set_option maxRecDepth 100000 in
set_option maxHeartbeats 2000000 in
theorem implSplitPath (p : ByteArray) (w : World) (hs : p.size ≤ 1048576) : Calls Try.prog 89 #[.string p] w fun e w' => QPost (splitB p) w e w' := by
  by_cases h1 : p = ⟨#[47]⟩
  · have HE := Shut.mk (splitB_one h1)
    have h1' : (p.toList == [47]) = true := by rw [h1, Go.ByteArray.toList_eq]; rfl
    have HP := Shut.mk h1
    clear h1
    go_enter Try.func89, Try.ntmps89
    go_wp2_with fail
    go_ret2
    exact QPost.none HE.out (Below.refl _ _)
  have h1' : (p.toList == [47]) = false := by
    rw [beq_eq_false_iff_ne]
    intro e
    rw [Go.ByteArray.toList_eq] at e
    exact h1 (ByteArray.ext (Array.toList_inj.1 e))
  have HB0 := Shut.mk (fun W => implBetween p W hs)
  obtain ⟨x, L, hxl⟩ := parts_ne p
  have hsm := seg_small p
  have hsp := split_parts h1 hxl
  have hln : (segs (lb p)).length = L.length + 1 := by
    have := congrArg List.length hxl
    rwa [List.length_map, List.length_cons] at this
  rw [hln, hxl] at HB0
  rw [hxl] at hsm
  have HSM := Shut.mk hsm
  have HSP := Shut.mk hsp
  clear h1 hxl hsm hsp hln
  obtain ⟨n, hn⟩ : ∃ n, n = L.length := ⟨_, rfl⟩
  rw [← hn] at HB0 HSP
  have HN := Shut.mk hn
  clear hn
  go_enter Try.func89, Try.ntmps89
  go_wp2_with fail
  refine (HB0.out _).mono ?_
  rintro e w1 ⟨v, rfl, hown, hb⟩
  obtain ⟨g, cap, rfl, hcap⟩ := own_some9 hown (by omega)
  have HB := Shut.mk hb
  have hw := own_wcells hown
  have c0 := (hw.2 0 (.string x) rfl).1
  have HOT := Shut.mk (own_tail hown)
  have z1 := hb.size
  clear hb hw hown HB0
  by_cases hx : x.size = 0
  case neg =>
    have hx1 : (x.toList != []) = true := by
      rw [bne_iff_ne]
      intro q
      rw [Go.ByteArray.toList_eq] at q
      exact hx (show x.data.size = 0 by rw [← Array.length_toList, q]; rfl)
    have hx2 : ¬ x.toList = [] := bne_iff_ne.1 hx1
    have HE : Shut (splitB p = ([], false)) := ⟨by rw [HSP.out, if_neg (fun q => hx q.1)]⟩
    clear HSP hx
    by_cases hc1 : cap = 1
    all_goals
      go_wp2_with fail
      go_quiet (fail)
      go_wp2_with fail
      go_ret2
      exact QPost.none HE.out (below_drewN HB.out _)
  have hx1 : (x.toList != []) = false := by
    rw [bne_eq_false_iff_eq, Go.ByteArray.toList_eq]
    exact List.eq_nil_of_length_eq_zero (by rw [Array.length_toList]; exact hx)
  have hx2 : x.toList = [] := by rwa [bne_eq_false_iff_eq] at hx1
  by_cases hn1 : (n : Int) < 1
  · have HE : Shut (splitB p = ([], false)) := ⟨by rw [HSP.out, if_neg (fun q => by have := q.2.1; omega)]⟩
    have hn5 : ¬ (1 : Int) ≤ (n : Int) := by omega
    clear HSP hx
    by_cases hc1 : cap = 1
    all_goals
      go_wp2_with fail
      go_quiet (fail)
      go_wp2_with fail
      go_ret2
      exact QPost.none HE.out (below_drewN HB.out _)
  by_cases hn4 : (4 : Int) < (n : Int)
  · have HE : Shut (splitB p = ([], false)) := ⟨by rw [HSP.out, if_neg (fun q => by have := q.2.2.1; omega)]⟩
    have hn5 : (1 : Int) ≤ (n : Int) := by omega
    have hn6 : ¬ (n : Int) ≤ 4 := by omega
    clear HSP hx
    by_cases hc1 : cap = 1
    all_goals
      go_wp2_with fail
      go_quiet (fail)
      go_wp2_with fail
      go_ret2
      exact QPost.none HE.out (below_drewN HB.out _)
  have hc1 : ¬ cap = 1 := by omega
  have hn5 : (1 : Int) ≤ (n : Int) := by omega
  have hn6 : (n : Int) ≤ 4 := by omega
  have HE : Shut (splitB p = if (∀ s ∈ L, nameB s = true) then (L, true) else ([], false)) := ⟨by
    rw [HSP.out]
    by_cases q : ∀ s ∈ L, nameB s = true
    · rw [if_pos q, if_pos ⟨hx, by omega, by omega, q⟩]
    · rw [if_neg q, if_neg (fun k => q k.2.2.2)]⟩
  clear HSP hx
  go_wp2_with fail
  go_quiet (fail)
  go_wp2_with fail
  go_loopw [32] (fun i wr => ∃ (k : Nat), i = .int .i64 k ∧ k ≤ n ∧ Shut (∀ j, j < k → nameB (L.getD j ⟨#[]⟩) = true) ∧ Shut (OwnAt wr w.heap.size (.slice (some ⟨g, 1, none⟩) n (cap - 1)) n L) ∧ Shut (Below w.heap.size w wr)) (fun i _ => n - (intOf i).toNat)
  case atStart => exact ⟨0, rfl, Nat.zero_le _, ⟨fun j hj => by omega⟩, ⟨HOT.out.kept (Nat.le_refl _) (fun _ _ => rfl)⟩, ⟨below_drewN HB.out _⟩⟩
  case round =>
    clear HOT HB c0
    obtain ⟨k, rfl, hk, hall, hown, hbl⟩ := hrel
    by_cases hlt : k < n
    · have hkL : k < L.length := by have := HN.out; omega
      obtain ⟨_, q | ⟨g', off', cap', e', hgb, hnc, hf, hoc⟩⟩ := hown.out
      · cases q.1
      cases e'
      have c1 := (hoc.2 k hkL).1
      have c2 := (hoc.2 k hkL).2
      have hg := hoc.1
      have hB := hbl.out.size
      have k0 : (0 : Int) ≤ (k : Int) := by omega
      have k1 : (k : Int) < (n : Int) := by omega
      have hmem : L.getD k ⟨#[]⟩ ∈ L := by simp [List.getD, hkL]
      have hsz : (L.getD k ⟨#[]⟩).size ≤ 1048576 := by have := HSM.out _ (List.mem_cons_of_mem x hmem); omega
      have HNA := Shut.mk (fun W => implNameOk (L.getD k ⟨#[]⟩) W hsz)
      have HCL := Shut.mk (fun W => strClone9 (L.getD k ⟨#[]⟩) W (by omega))
      clear hf hoc
      cases hnm : nameB (L.getD k ⟨#[]⟩) with
      | false =>
        have HF : Shut (splitB p = ([], false)) := ⟨by rw [HE.out, if_neg (fun q => by have := q _ hmem; rw [hnm] at this; cases this)]⟩
        rw [hnm] at HNA
        generalize L.getD k ⟨#[]⟩ = y at *
        clear hnm hmem HCL HE
        go_wp2_with fail
        refine (HNA.out _).mono ?_
        rintro e w2 ⟨rfl, hb2⟩
        have HB2 := Shut.mk (hbl.out.trans (hb2.mono hbl.out.size))
        clear hb2
        go_wp2_with fail
        go_ret2
        exact QPost.none HF.out HB2.out
      | true =>
        have HA : Shut (∀ j, j < k + 1 → nameB (L.getD j ⟨#[]⟩) = true) := ⟨fun j hj => by
          by_cases e : j = k
          · subst e; exact hnm
          · exact hall.out j (by omega)⟩
        have HSA := Shut.mk (fun W (q : OwnAt W w.heap.size (.slice (some ⟨g, 1, none⟩) n (cap - 1)) n L) => q.same hkL)
        rw [hnm] at HNA
        generalize L.getD k ⟨#[]⟩ = y at *
        clear hnm hmem HE hall
        go_wp2_with fail
        refine (HNA.out _).mono ?_
        rintro e w2 ⟨rfl, hb2⟩
        have HB2 := Shut.mk (hbl.out.trans (hb2.mono hbl.out.size))
        have HO2 := Shut.mk (hown.out.below hb2)
        rw [← hb2.cell (p := ⟨g, 1 + k, none⟩) hg] at c1
        rw [← hb2.frozen (p := ⟨g, 1 + k, none⟩) hg] at c2
        have hg2 := Nat.lt_of_lt_of_le hg hb2.size
        clear hb2 HNA hown hbl
        go_wp2_with fail
        refine (HCL.out _).mono ?_
        rintro e w3 ⟨rfl, hb3⟩
        have HB3 := Shut.mk (HB2.out.trans (hb3.mono HB2.out.size))
        have HO3 := Shut.mk (HO2.out.below hb3)
        rw [← hb3.cell (p := ⟨g, 1 + k, none⟩) hg2] at c1
        rw [← hb3.frozen (p := ⟨g, 1 + k, none⟩) hg2] at c2
        have hg3 := Nat.lt_of_lt_of_le hg2 hb3.size
        clear hb3 HCL HO2 HB2
        have HO4 := Shut.mk (HSA.out _ HO3.out)
        have HB4 := Shut.mk (HB3.out.grown (grownBy_setCell w3 g (1 + k) (.string y)) HB3.out.size (fun j hj => by cases hj; exact hgb))
        clear HO3 HB3 HSA
        go_wp2_with fail
        go_roundw
        case rel => exact ⟨k + 1, by go_num, by omega, HA, HO4, HB4⟩
        case measure => simp [intOf]; omega
    · have HF : Shut (splitB p = (L, true)) := ⟨by
        rw [HE.out, if_pos (fun s hs => ?_)]
        obtain ⟨j, hj, rfl⟩ := List.mem_iff_getElem.1 hs
        have := hall.out j (by have := HN.out; omega)
        simpa [List.getD, hj] using this⟩
      have k1 : ¬ (k : Int) < (n : Int) := by omega
      clear hall HE
      go_wp2_with fail
      go_ret2
      unfold QPost
      rw [HF.out]
      exact ⟨_, rfl, by rw [← HN.out]; exact hown.out, hbl.out⟩
end Go.Proofs.Ytcnjjbgilpgceaa
/- LawPth: The walks of the exact laws over paths, over what is told of the program's own functions at every argument (first written by gen/mklawpath.py). -/
namespace Go.Proofs.Ytcnjjbgilpgceaa
set_option maxRecDepth 100000
open Go.RowKit
attribute [local irreducible] nameB splitB joinB parentB tsum

/-- What an answer of texts and a flag is. -/
def TPost9 (R : List ByteArray × Bool) (w : World) (e : Ending) (w' : World) : Prop := ∃ v, e = .returned (.tuple #[v, .bool R.2]) ∧ OAns w' v R.1 w.heap.size w'.heap.size ∧ Below w.heap.size w w'
theorem OPost.tp {R : List ByteArray × Bool} {w w' : World} {e : Ending} (h : OPost R w e w') : TPost9 R w e w' := by
  obtain ⟨v, he, ho, hb⟩ := h
  exact ⟨v, he, (own_sans rfl ho).oans, hb⟩
theorem QPost.tp {R : List ByteArray × Bool} {w w' : World} {e : Ending} (h : QPost R w e w') : TPost9 R w e w' := by
  obtain ⟨v, he, ho, hb⟩ := h
  exact ⟨v, he, ho.oans, hb⟩
theorem same_toList (x : ByteArray) : (x.toList != x.toList) = false := by simp
end Go.Proofs.Ytcnjjbgilpgceaa
/- FrT: The laws' own comparison of two rows of texts. -/
namespace Go.Proofs.Ytcnjjbgilpgceaa
set_option maxRecDepth 100000
open Go.RowKit

set_option maxHeartbeats 400000 in
theorem sameTexts_any (a b : Option Addr) (xs ys : List ByteArray) (ca cb : Nat) (w : World) (ha : SRow w a xs) (hb : SRow w b ys) (hn : xs.length ≤ 100000000) (hm : ys.length ≤ 100000000) :
    Calls Try.prog 19 #[.slice a xs.length ca, .slice b ys.length cb] w fun e w' => e = .returned (.bool (eqS xs ys)) ∧ ∃ q, w' = w.drewN q := by
  obtain ⟨n, hnx⟩ : ∃ n, n = xs.length := ⟨_, rfl⟩
  obtain ⟨m, hmy⟩ : ∃ m, m = ys.length := ⟨_, rfl⟩
  have HN : Hid (n = xs.length) := hnx
  have HM : Hid (m = ys.length) := hmy
  rw [← hnx, ← hmy]
  rw [← hnx] at hn
  rw [← hmy] at hm
  clear hnx hmy
  by_cases h : n = m
  · subst h
    have hd : (((n : Int) != (n : Int))) = false := by simp
    go_enter Try.func19, Try.ntmps19
    go_wp2_with fail
    go_loopw [5] (fun i wr => ∃ (k q : Nat), i = .int .i64 k ∧ k ≤ n ∧ sameTo xs ys k ∧ wr = w.drewN q) (fun i _ => n - (intOf i).toNat)
    case atStart => exact ⟨0, 0, rfl, Nat.zero_le _, fun j hj => by omega, rfl⟩
    case round =>
      obtain ⟨k, q, rfl, hk, hs, rfl⟩ := hrel
      by_cases hlt : k < n
      · obtain ⟨g, rfl, _, hc⟩ := ha (by have := HN.out; omega)
        obtain ⟨g', rfl, _, hc'⟩ := hb (by have := HM.out; omega)
        have c1 := hc k (by have := HN.out; omega)
        have c2 := hc' k (by have := HM.out; omega)
        have k0 : (0 : Int) ≤ (k : Int) := by omega
        have k1 : (k : Int) < (n : Int) := by omega
        obtain ⟨x, hx⟩ : ∃ x, x = xs.getD k ⟨#[]⟩ := ⟨_, rfl⟩
        obtain ⟨y, hy⟩ : ∃ y, y = ys.getD k ⟨#[]⟩ := ⟨_, rfl⟩
        rw [← hx] at c1
        rw [← hy] at c2
        have HX : Hid _ := hx
        have HY : Hid _ := hy
        clear hx hy hc hc'
        by_cases hxy : x = y
        · have hst := sameTo_step xs ys k hs (by rw [← HX.out, ← HY.out]; exact hxy)
          subst hxy
          go_wp2_with fail
          go_quiet (fail)
          go_wp2_with fail
          go_roundw
          case rel => exact ⟨k + 1, q + nq, by go_num, by omega, hst, rfl⟩
          case measure => simp [intOf]; omega
        · have hbn : (x.toList == y.toList) = false := by
            rw [beq_eq_false_iff_ne]; intro e; apply hxy
            rw [Go.ByteArray.toList_eq, Go.ByteArray.toList_eq] at e
            exact Go.WideShapes.bytes_inj e
          have HE : Hid (eqS xs ys = false) := eqS_no xs ys k (by rw [← HX.out, ← HY.out]; exact hxy)
          go_wp2_with fail
          go_quiet (fail)
          go_wp2_with fail
          go_ret
          exact ⟨by rw [HE.out]; rfl, q + nq, drewN_two _ _ _⟩
      · have HE : Hid (eqS xs ys = true) := eqS_yes xs ys (by rw [← HN.out, ← HM.out]) (by rw [show xs.length = k from by have := HN.out; omega]; exact hs)
        go_wp2_with fail
        go_ret
        exact ⟨by rw [HE.out]; rfl, q, rfl⟩
  · have HE : Hid (eqS xs ys = false) := eqS_len xs ys (by rw [← HN.out, ← HM.out]; exact h)
    have hd : (((n : Int) != (m : Int))) = true := by rw [bne_iff_ne]; omega
    go_enter Try.func19, Try.ntmps19
    go_wp2_with fail
    go_ret
    exact ⟨by rw [HE.out]; rfl, 0, rfl⟩
end Go.Proofs.Ytcnjjbgilpgceaa
/- OpenC: The code that a drawn law is handed: what came in. -/
namespace Go.Proofs.Ytcnjjbgilpgceaa
set_option maxRecDepth 100000
open Go.RowKit Go.ChangeShapes Go.WideShapes
set_option maxRecDepth 100000 in
theorem open_code {H : Type} {enc : TypeId × Value → H} {W : World} {r : Reach} {b0 base : Nat} {held : Bool} {v : Value} {d : DataW H} {p : List MemPlace}
    (hv : Value.okWide Try.prog W r b0 22 v) (h : DataW.Trod enc Try.prog W base (fun _ => true) held 22 v d p) : ∃ a len cap, v = .slice a len cap ∧ (len ≤ 1048576 → CodeAt W W.heap.size a len) := by
  obtain ⟨a0, l0, c0, rfl⟩ := okWide_slice Try.underlying22 hv
  refine ⟨a0, l0, c0, rfl, fun hl => ?_⟩
  obtain ⟨fuel, hf⟩ := h
  rcases open_ints Try.underlying22 Try.underlying5 (by kernel_rfl) hf with ⟨hcs, _⟩ | ⟨x, l, c, zs, hcs, _, hl', hm, hz, _, hcell, hwz⟩
  · simp [Value.cells] at hcs
    obtain ⟨rfl, rfl, rfl⟩ := hcs
    exact code_at (cap := 0) (zs := []) hl (.inl ⟨rfl, rfl⟩)
  · simp [Value.cells] at hcs
    obtain ⟨rfl, rfl, rfl⟩ := hcs
    exact code_at (cap := c0) (zs := zs) hl (.inr ⟨_, rfl, hl', by simpa using hz, hcell, hwz⟩)
end Go.Proofs.Ytcnjjbgilpgceaa
/- LawPts: The walk of the law over paths, over what is told of the program's own functions. -/
namespace Go.Proofs.Ytcnjjbgilpgceaa
set_option maxRecDepth 100000
open Go.RowKit
attribute [local go_sem ↓] Go.wp_at_zero Go.wp_at_succ

structure PathsAll : Prop where
  name : ∀ (t : ByteArray) (w : World), t.size ≤ 1048576 → Calls Try.prog 101 #[.string t] w fun e w' => e = .returned (.bool (nameB t)) ∧ Below w.heap.size w w'
  split : ∀ (t : ByteArray) (w : World), t.size ≤ 1048576 → Calls Try.prog 89 #[.string t] w fun e w' => QPost (splitB t) w e w'
  join : ∀ (w : World) (u : Value) (L : List ByteArray) (lo hi : Nat), CSee w u L lo hi → TFit L → Calls Try.prog 90 #[u] w fun e w' => e = .returned (.string (joinB L)) ∧ Below w.heap.size w w'
  parent : ∀ (t : ByteArray) (w : World), t.size ≤ 1048576 → Calls Try.prog 76 #[.string t] w fun e w' => ParPost t w e w'
set_option maxHeartbeats 400000 in
theorem sameTx9 {w : World} {v u : Value} {L : List ByteArray} {lo hi lo' hi' : Nat} (h : SSee w v L lo hi) (k : SSee w u L lo' hi') (hn : L.length ≤ 100000000) : Calls Try.prog 19 #[v, u] w fun e w' => e = .returned (.bool true) ∧ Below w.heap.size w w' := by
  obtain ⟨a, ca, rfl, ha⟩ := h
  obtain ⟨b, cb, rfl, hb⟩ := k
  have HA := Shut.mk (fun hp => units_at ha hp)
  have HB := Shut.mk (fun hp => units_at hb hp)
  obtain ⟨n, hnx⟩ : ∃ n, n = L.length := ⟨_, rfl⟩
  rw [← hnx] at HA HB hn ⊢
  clear ha hb hnx
  have hd : (((n : Int) != (n : Int))) = false := by simp
  go_enter Try.func19, Try.ntmps19
  go_wp2_with fail
  go_loopw [5] (fun i wr => ∃ (k q : Nat), i = .int .i64 k ∧ k ≤ n ∧ wr = w.drewN q) (fun i _ => n - (intOf i).toNat)
  case atStart => exact ⟨0, 0, rfl, Nat.zero_le _, rfl⟩
  case round =>
    obtain ⟨k, q, rfl, hk, rfl⟩ := hrel
    by_cases hlt : k < n
    · obtain ⟨g, o1, rfl, _, hc⟩ := HA.out (by omega)
      obtain ⟨g', o2, rfl, _, hc'⟩ := HB.out (by omega)
      have c1 := hc k hlt
      have c2 := hc' k hlt
      have k0 : (0 : Int) ≤ (k : Int) := by omega
      have k1 : (k : Int) < (n : Int) := by omega
      generalize L.getD k ⟨#[]⟩ = x at c1 c2
      have hxx := same_beq x
      clear hc hc' HA HB
      go_wp2_with fail
      go_quiet (fail)
      go_wp2_with fail
      go_roundw
      case rel => exact ⟨k + 1, q + nq, by go_num, by omega, rfl⟩
      case measure => simp [intOf]; omega
    · go_wp2_with fail
      go_ret
      exact ⟨rfl, ⟨rfl, rfl, rfl, Nat.le_refl _, fun _ _ => rfl⟩⟩
theorem eq_toList (x : ByteArray) : (x.toList == x.toList) = true := by simp
theorem slash_toList : ((⟨#[47]⟩ : ByteArray).toList == [47]) = true := by rw [Go.ByteArray.toList_eq]; rfl
theorem none_toList : ((⟨#[]⟩ : ByteArray).toList == []) = true := by rw [Go.ByteArray.toList_eq]; rfl
theorem join_size {I : List ByteArray} (h : TFit I) : (joinB I).size ≤ 1048576 := by
  by_cases e : I = []
  · subst e; decide
  · rw [joinB_ne e, joinA_size]; exact h
end Go.Proofs.Ytcnjjbgilpgceaa
/- PaL: The program's own JoinPath and ParentPath; all four together. -/
namespace Go.Proofs.Ytcnjjbgilpgceaa
set_option maxRecDepth 100000
open Go.RowKit
open Go.PlainAid (bt)
attribute [local go_sem ↓] Go.wp_at_zero Go.wp_at_succ

theorem lib_join (L : List (List UInt8)) : (47 :: Lib.join L [47]) = joinP L := by
  cases L with
  | nil => rfl
  | cons x L =>
    unfold joinP
    rw [if_neg (by simp)]
    induction L generalizing x with
    | nil => simp [Lib.join]
    | cons y L ih =>
      have := ih y
      simp only [List.map_cons, List.flatten_cons, List.cons_append, List.cons.injEq, true_and] at this ⊢
      rw [← this]
      simp [Lib.join]
theorem joinP_len (L : List ByteArray) (h : TFit L) : (Lib.join (L.map lb) [47]).length ≤ 2097152 := by
  have e := congrArg List.length (lib_join (L.map lb))
  have := join_size h
  have hb : (joinB L).size = (joinP (L.map lb)).length := by
    unfold joinB
    show (joinP (L.map lb)).toArray.size = _
    simp
  rw [List.length_cons] at e
  omega
set_option maxRecDepth 100000 in
set_option maxHeartbeats 1000000 in
theorem implJoinPath (w : World) (u : Value) (L : List ByteArray) (lo hi : Nat) (hu : CSee w u L lo hi) (hf : TFit L) : Calls Try.prog 90 #[u] w fun e w' => e = .returned (.string (joinB L)) ∧ Below w.heap.size w w' := by
  obtain ⟨a, cap, rfl, hc, hr⟩ := hu
  have hjl := joinP_len L hf
  have HJ : Shut (joinB L = (⟨#[47]⟩ : ByteArray) ++ ⟨(Lib.join (L.map lb) [47]).toArray⟩) := ⟨by
    unfold joinB
    rw [← lib_join]
    apply ByteArray.ext
    simp⟩
  by_cases h0 : L = []
  · subst h0
    have HN := Shut.mk (fun W => Try.strings_Join_none a cap ⟨#[47]⟩ W)
    clear hr hf hjl
    go_enter Try.func90, Try.ntmps90
    go_wp2_with fail
    refine (HN.out _).mono ?_
    rintro e w1 ⟨rfl, hw⟩
    subst hw
    go_wp2_with fail
    go_ret
    exact ⟨rfl, Below.refl _ _⟩
  · obtain ⟨b, off, rfl, hb, hcs⟩ := units_at hr (List.length_pos_iff.2 h0)
    have hn : L.length ≤ 1048576 := by unfold TFit at hf; omega
    have HN := Shut.mk (Try.strings_Join b off cap L ⟨#[47]⟩ w (fun j x hx => by
      obtain ⟨hj, e⟩ := List.getElem?_eq_some_iff.1 hx
      have := hcs j hj
      rw [this]
      simp [List.getD, hj, e]) hb (by omega) hc (by
        show (Lib.join (L.map lb) [47]).length ≤ _
        omega))
    have hsz : ((⟨(Lib.join (L.map lb) [47]).toArray⟩ : ByteArray)).size ≤ 2097152 := by
      show (Lib.join (L.map lb) [47]).toArray.size ≤ _
      simpa using hjl
    have HN' : Shut (Calls Try.prog 102 #[.slice (some ⟨b, off, none⟩) L.length cap, .string ⟨#[47]⟩] w fun e w' => e = .returned (.string ⟨(Lib.join (L.map lb) [47]).toArray⟩) ∧ Below w.heap.size w w') := HN
    generalize (⟨(Lib.join (L.map lb) [47]).toArray⟩ : ByteArray) = J at *
    clear hr hf hjl hcs HN h0
    go_enter Try.func90, Try.ntmps90
    go_wp2_with fail
    refine HN'.out.mono ?_
    rintro e w1 ⟨rfl, hb1⟩
    go_wp2_with fail
    go_ret
    exact ⟨by rw [HJ.out]; rfl, hb1⟩
theorem OwnAt.form {w : World} {base n : Nat} {v : Value} {L : List ByteArray} (h : OwnAt w base v n L) : ∃ a cap, v = .slice a n cap := by
  obtain ⟨_, ⟨e, h0⟩ | ⟨g, off, cap, e, _⟩⟩ := h
  · exact ⟨none, 0, by rw [e, h0]⟩
  · exact ⟨_, cap, e⟩
theorem OwnAt.some' {w : World} {base n : Nat} {v : Value} {L : List ByteArray} (h : OwnAt w base v n L) (hp : 0 < n) : ∃ g off cap, v = .slice (some ⟨g, off, none⟩) n cap ∧ n ≤ cap ∧ g < w.heap.size ∧ ∀ j, j < L.length → w.cell? ⟨g, off + j, none⟩ = some (.string (L.getD j ⟨#[]⟩)) := by
  obtain ⟨_, ⟨_, h0⟩ | ⟨g, off, cap, e, _, hn, _, hc⟩⟩ := h
  · omega
  · exact ⟨g, off, cap, e, hn, hc.1, fun j hj => (hc.2 j hj).1⟩
theorem CSee.below {w w' : World} {v : Value} {L : List ByteArray} {lo hi : Nat} (h : CSee w v L lo hi) (hb : Below w.heap.size w w') : CSee w' v L lo hi := by
  obtain ⟨a, cap, e, hc, hr⟩ := h
  obtain ⟨a', cap', e', hr'⟩ := (show SSee w v L lo hi from ⟨a, cap, e, hr⟩).below hb
  rw [e] at e'
  cases e'
  exact ⟨a, cap, e, hc, hr'⟩
set_option maxRecDepth 100000 in
set_option maxHeartbeats 2000000 in
theorem implParentPath (p : ByteArray) (w : World) (hs : p.size ≤ 1048576) : Calls Try.prog 76 #[.string p] w fun e w' => ParPost p w e w' := by
  have HS := Shut.mk (fun W => implSplitPath p W hs)
  have hnm := splitB_names p
  unfold QPost at HS
  unfold ParPost
  obtain ⟨L, ok, hre⟩ : ∃ L ok, splitB p = (L, ok) := ⟨_, _, rfl⟩
  rw [hre] at HS hnm
  have HN := Shut.mk hnm
  clear hnm
  cases ok with
  | false =>
    rw [parent_no hre (.inl rfl)]
    clear hre
    go_enter Try.func76, Try.ntmps76
    go_wp2_with fail
    refine (HS.out _).mono ?_
    rintro e w1 ⟨v, rfl, ho, hb⟩
    obtain ⟨a, cap, rfl⟩ := ho.form
    have HB := Shut.mk hb
    clear ho hb
    go_wp2_with fail
    go_ret3
    exact ⟨rfl, HB.out⟩
  | true =>
    rcases List.eq_nil_or_concat L with rfl | ⟨I, x, rfl⟩
    · rw [parent_no hre (.inr rfl)]
      clear hre
      go_enter Try.func76, Try.ntmps76
      go_wp2_with fail
      refine (HS.out _).mono ?_
      rintro e w1 ⟨v, rfl, ho, hb⟩
      obtain ⟨a, cap, rfl⟩ := ho.form
      have HB := Shut.mk hb
      clear ho hb
      go_wp2_with fail
      go_ret3
      exact ⟨rfl, HB.out⟩
    · rw [List.concat_eq_append] at *
      rw [parent_yes hre]
      obtain ⟨J, hJ⟩ : ∃ J, J = joinB I := ⟨_, rfl⟩
      have HJE := Shut.mk hJ
      rw [← hJ]
      clear hJ
      have h4 := HN.out.2
      have HF : Shut (TFit I) := ⟨names_fit (fun s h => HN.out.1 s (List.mem_append.2 (.inl h))) (by rw [List.length_append] at h4; omega)⟩
      obtain ⟨m, hm⟩ : ∃ m, m = I.length := ⟨_, rfl⟩
      have HM := Shut.mk hm
      have hm4 : m ≤ 4 := by rw [List.length_append] at h4; omega
      rw [show (I ++ [x], true).1.length = m + 1 by simp [hm]] at HS
      clear hre h4 hm
      go_enter Try.func76, Try.ntmps76
      go_wp2_with fail
      refine (HS.out _).mono ?_
      rintro e w1 ⟨v, rfl, ho, hb⟩
      obtain ⟨g, off, cap, rfl, hcap, hg, hcs⟩ := ho.some' (by omega)
      have d0 : w1.cell? ⟨g, off + m, none⟩ = some (.string x) := by
        rw [hcs m (by rw [List.length_append, HM.out]; simp)]
        simp [List.getD, HM.out]
      have hsee : CSee w1 (.slice (some ⟨g, off, none⟩) m cap) I 0 w1.heap.size := ⟨_, cap, by rw [HM.out], by rw [← HM.out]; omega, fun _ => ⟨g, off, rfl, Nat.zero_le _, hg, hg, fun i u hu => by
        have hi : i < I.length := by
          have := (List.getElem?_eq_some_iff.1 hu).1
          rwa [tv_len] at this
        rw [tv_get I i hi] at hu
        cases hu
        rw [hcs i (by rw [List.length_append]; omega)]
        simp [List.getD, List.getElem?_append_left hi]⟩⟩
      have HJ := Shut.mk (fun W (hW : Below w1.heap.size w1 W) => implJoinPath W _ _ _ _ (hsee.below hW) HF.out)
      have HB := Shut.mk hb
      have hm0 : (((m + 1 : Nat) : Int) == 0) = false := by rw [beq_eq_false_iff_ne]; omega
      obtain ⟨n, hn⟩ : ∃ n, n = m + 1 := ⟨_, rfl⟩
      rw [← hn] at hcap hm0 ⊢
      have hnm : (n : Int) - 1 = (m : Int) := by omega
      have hmn : (m : Int) < (n : Int) := by omega
      have hmc : (m : Int) ≤ (cap : Int) := by omega
      have hm9 : (0 : Int) ≤ (m : Int) := by omega
      have hwr : IntKind.i64.wrap ((n : Int) - 1) = (m : Int) := by rw [hnm]; exact IntWalk.i64_in _ ⟨by omega, by omega⟩
      rw [← HJE.out] at HJ
      clear ho hb hcs hsee hn HN HM hnm
      go_wp2_with fail
      go_region_held3 (fun w' => w'.cell? ⟨g, off + m, none⟩ = some (.string x))
        (first | assumption | (exact (hb9.cell (p := ⟨g, off + m, none⟩) hg).trans (by assumption)) | go_keep)
        (first | (go_at_call 90; refine (HJ.out _ (by first | exact Below.refl _ _ | exact Below.drew (Below.refl _ _))).mono ?_; rintro e w9 ⟨rfl, hb9⟩))
      all_goals
        go_wp2_with fail
        go_ret3
        exact ⟨rfl, by first | exact HB.out.trans (hb9.mono HB.out.size) | exact HB.out.trans (((Below.drew (Below.refl w1.heap.size w1)).trans hb9).mono HB.out.size)⟩
theorem pathsAll : PathsAll := ⟨implNameOk, implSplitPath, implJoinPath, implParentPath⟩
end Go.Proofs.Ytcnjjbgilpgceaa
/- HasN: The program's own: a path that has a name. -/
namespace Go.Proofs.Ytcnjjbgilpgceaa
set_option maxRecDepth 100000
open Go.RowKit BigFrame
attribute [local go_sem ↓] Go.wp_at_zero Go.wp_at_succ

theorem implHasName (p : ByteArray) (w : World) (hs : p.size ≤ 1048576) : Calls Try.prog 65 #[.string p] w fun e w' => e = .returned (.bool (named p)) ∧ Below w.heap.size w w' := by
  have HC := Shut.mk (fun W => implParentPath p W hs)
  unfold ParPost at HC
  have e0 : named p = (parentB p).2.2 := rfl
  rw [e0]
  generalize (parentB p).2.2 = a at *
  generalize (parentB p).2.1 = b at *
  generalize (parentB p).1 = c at *
  clear hs e0
  go_enter Try.func65, Try.ntmps65
  go_wp2_with fail
  refine (HC.out _).mono ?_
  rintro e w1 ⟨rfl, hb⟩
  go_wp2_with fail
  go_ret
  exact ⟨rfl, hb⟩
end Go.Proofs.Ytcnjjbgilpgceaa
/- LtA: The program's own: texts and leases held against one another; leases that are right; leases that are old. -/
namespace Go.Proofs.Ytcnjjbgilpgceaa
set_option maxRecDepth 100000
open Go.RowKit BigFrame
attribute [local go_sem ↓] Go.wp_at_zero Go.wp_at_succ

theorem nan_str (x : ByteArray) (w : World) : Calls Try.prog 77 #[.string x] w fun e w' => e = .returned (.bool false) ∧ w' = w := by
  have h : (x.toList != x.toList) = false := by simp
  have h2 : (x.toList == x.toList) = true := by simp
  go_enter Try.func77, Try.ntmps77
  go_wp2_with fail
  go_ret
  exact ⟨rfl, rfl⟩
theorem cmp_str (x y : ByteArray) (w : World) : Calls Try.prog 67 #[.string x, .string y] w fun e w' => e = .returned (.int .i64 (cmpS x y)) ∧ w' = w := by
  have HN := Shut.mk (fun z => nan_str z w)
  have HI := Shut.mk (less_not x y)
  obtain ⟨R, hR⟩ : ∃ R, R = cmpS x y := ⟨_, rfl⟩
  rw [← hR]
  unfold cmpS lt9 at hR
  cases h1 : Op.bytesLess x.toList y.toList with
  | true =>
    rw [h1] at hR
    have HE : Shut (R = -1) := ⟨hR⟩
    clear hR
    go_enter Try.func67, Try.ntmps67
    go_wp2_with (go_at_call 77; refine (HN.out _).mono ?_; rintro e w1 ⟨rfl, hw1⟩; subst hw1)
    go_ret
    exact ⟨by rw [HE.out]; rfl, rfl⟩
  | false =>
    cases h2 : Op.bytesLess y.toList x.toList with
    | true =>
      rw [h1, h2] at hR
      have HE : Shut (R = 1) := ⟨hR⟩
      have h3 := HI.out h1 h2
      clear hR
      go_enter Try.func67, Try.ntmps67
      go_wp2_with (go_at_call 77; refine (HN.out _).mono ?_; rintro e w1 ⟨rfl, hw1⟩; subst hw1)
      go_ret
      exact ⟨by rw [HE.out]; rfl, rfl⟩
    | false =>
      rw [h1, h2] at hR
      have HE : Shut (R = 0) := ⟨hR⟩
      have h3 : (x.toList == y.toList) = true := same_of_not h1 h2
      clear hR
      go_enter Try.func67, Try.ntmps67
      go_wp2_with (go_at_call 77; refine (HN.out _).mono ?_; rintro e w1 ⟨rfl, hw1⟩; subst hw1)
      go_ret
      exact ⟨by rw [HE.out]; rfl, rfl⟩
set_option maxRecDepth 100000 in
theorem implCompareLeases (a b : LsM) (w : World) : Calls Try.prog 46 #[lsv a, lsv b] w fun e w' => e = .returned (.int .i64 (cmpS a.path b.path)) ∧ Below w.heap.size w w' := by
  have HS0 := Shut.mk (((SL.start w).new #[.string a.path, .int .i64 a.who, .int .i64 a.seen] 35).new #[.string b.path, .int .i64 b.who, .int .i64 b.seen] 35)
  simp only [World.size_alloc] at HS0
  have HC := Shut.mk (fun W => cmp_str a.path b.path W)
  obtain ⟨ap, aw, as9⟩ := a
  obtain ⟨bp, bw, bs⟩ := b
  dsimp only at *
  generalize cmpS ap bp = cv at HC ⊢
  go_enter Try.func46, Try.ntmps46
  go_upto_region 1 with fail
  refine wp_shade (fun W => SL w W [bxS (w.heap.size + 1) [.string bp, .int .i64 bw, .int .i64 bs], bxS w.heap.size [.string ap, .int .i64 aw, .int .i64 as9]]) HS0.out ?_
  intro W0 hW
  have H := Shut.mk hW
  clear HS0 hW
  have x0 := (H.out.bx 1 rfl 0 _ rfl).1
  have y0 := (H.out.bx 0 rfl 0 _ rfl).1
  go_wp2_with (go_at_call 67; refine (HC.out _).mono ?_; rintro e w1 ⟨rfl, hw1⟩; subst hw1)
  go_ret
  exact ⟨rfl, H.out.bel⟩
theorem implTimeOk (n : Int) (w : World) : Calls Try.prog 66 #[.int .i64 n] w fun e w' => e = .returned (.bool (inI n 0 1000000000)) ∧ w' = w := by
  by_cases h0 : 0 ≤ n
  · by_cases h1 : n ≤ 1000000000
    · rw [show inI n 0 1000000000 = true from inI_iff.2 ⟨h0, h1⟩]
      go_enter Try.func66, Try.ntmps66
      go_wp2_with fail
      go_ret
      exact ⟨rfl, rfl⟩
    · rw [show inI n 0 1000000000 = false by simp [inI, h1]]
      go_enter Try.func66, Try.ntmps66
      go_wp2_with fail
      go_ret
      exact ⟨rfl, rfl⟩
  · rw [show inI n 0 1000000000 = false by simp [inI, h0]]
    go_enter Try.func66, Try.ntmps66
    go_wp2_with fail
    go_ret
    exact ⟨rfl, rfl⟩
set_option maxRecDepth 100000 in
theorem implLeaseOk (f : LsM) (w : World) (hs : f.path.size ≤ 1048576) : Calls Try.prog 45 #[lsv f] w fun e w' => e = .returned (.bool (lsOne f)) ∧ Below w.heap.size w w' := by
  have HS0 := Shut.mk ((SL.start w).new #[.string f.path, .int .i64 f.who, .int .i64 f.seen] 35)
  have HN := Shut.mk (fun W => implHasName f.path W hs)
  have HT := Shut.mk (fun W => implTimeOk f.seen W)
  obtain ⟨R, hR⟩ : ∃ R, R = lsOne f := ⟨_, rfl⟩
  rw [← hR]
  have HQ := Shut.mk hR
  unfold lsOne at HQ
  clear hR hs
  obtain ⟨p, who, seen⟩ := f
  dsimp only at *
  generalize named p = b0 at HN HQ
  generalize inI seen 0 1000000000 = b3 at HT HQ
  go_enter Try.func45, Try.ntmps45
  go_upto_region 1 with fail
  refine wp_shade (fun W => SL w W [bxS w.heap.size [.string p, .int .i64 who, .int .i64 seen]]) HS0.out ?_
  intro W0 hW
  have H := Shut.mk hW
  clear HS0 hW
  have x0 := (H.out.bx 0 rfl 0 _ rfl).1
  cases b0 with
  | false =>
    go_wp2_with (go_at_call 65; refine (HN.out _).mono ?_; rintro e w1 ⟨rfl, hb⟩; have H1 := Shut.mk (H.out.below hb); clear hb x0)
    go_ret
    exact ⟨by rw [HQ.out]; rfl, H1.out.bel⟩
  | true =>
    by_cases h1 : 1 ≤ who
    · by_cases h2 : who ≤ 9
      · have HE : Shut (R = b3) := ⟨by rw [HQ.out]; simp [inI, h1, h2]⟩
        go_wp2_with (first | (go_at_call 65; refine (HN.out _).mono ?_; rintro e w1 ⟨rfl, hb⟩; have H1 := Shut.mk (H.out.below hb); have y1 := (H1.out.bx 0 rfl 1 _ rfl).1; have y2 := (H1.out.bx 0 rfl 2 _ rfl).1; clear hb x0) | (go_at_call 66; refine (HT.out _).mono ?_; rintro e w2 ⟨rfl, hw⟩; subst hw))
        go_ret
        exact ⟨by rw [HE.out]; rfl, H1.out.bel⟩
      · have HE : Shut (R = false) := ⟨by rw [HQ.out]; simp [inI, h2]⟩
        go_wp2_with (first | (go_at_call 65; refine (HN.out _).mono ?_; rintro e w1 ⟨rfl, hb⟩; have H1 := Shut.mk (H.out.below hb); have y1 := (H1.out.bx 0 rfl 1 _ rfl).1; have y2 := (H1.out.bx 0 rfl 2 _ rfl).1; clear hb x0) | (go_at_call 66; refine (HT.out _).mono ?_; rintro e w2 ⟨rfl, hw⟩; subst hw))
        go_ret
        exact ⟨by rw [HE.out]; rfl, H1.out.bel⟩
    · have HE : Shut (R = false) := ⟨by rw [HQ.out]; simp [inI, h1]⟩
      go_wp2_with (first | (go_at_call 65; refine (HN.out _).mono ?_; rintro e w1 ⟨rfl, hb⟩; have H1 := Shut.mk (H.out.below hb); have y1 := (H1.out.bx 0 rfl 1 _ rfl).1; have y2 := (H1.out.bx 0 rfl 2 _ rfl).1; clear hb x0) | (go_at_call 66; refine (HT.out _).mono ?_; rintro e w2 ⟨rfl, hw⟩; subst hw))
      go_ret
      exact ⟨by rw [HE.out]; rfl, H1.out.bel⟩
def agoX (f : LsM) (time now : Int) : Bool := inI f.seen 0 1000000000 && inI now 0 1000000000 && decide (time ≤ now - f.seen)
set_option maxRecDepth 100000 in
theorem implSeenAgo (f : LsM) (time now : Int) (w : World) : Calls Try.prog 64 #[lsv f, .int .i64 time, .int .i64 now] w fun e w' => e = .returned (.bool (agoX f time now)) ∧ Below w.heap.size w w' := by
  have HS0 := Shut.mk ((SL.start w).new #[.string f.path, .int .i64 f.who, .int .i64 f.seen] 35)
  have HT1 := Shut.mk (fun W => implTimeOk f.seen W)
  have HT2 := Shut.mk (fun W => implTimeOk now W)
  have HB1 : Shut (inI f.seen 0 1000000000 = true → 0 ≤ f.seen ∧ f.seen ≤ 1000000000) := ⟨fun h => inI_iff.1 h⟩
  have HB2 : Shut (inI now 0 1000000000 = true → 0 ≤ now ∧ now ≤ 1000000000) := ⟨fun h => inI_iff.1 h⟩
  obtain ⟨R, hR⟩ : ∃ R, R = agoX f time now := ⟨_, rfl⟩
  rw [← hR]
  have HQ := Shut.mk hR
  unfold agoX at HQ
  clear hR
  obtain ⟨p, who, seen⟩ := f
  dsimp only at *
  generalize inI seen 0 1000000000 = b1 at HT1 HQ HB1
  generalize inI now 0 1000000000 = b2 at HT2 HQ HB2
  go_enter Try.func64, Try.ntmps64
  go_upto_region 1 with fail
  refine wp_shade (fun W => SL w W [bxS w.heap.size [.string p, .int .i64 who, .int .i64 seen]]) HS0.out ?_
  intro W0 hW
  have H := Shut.mk hW
  clear HS0 hW
  have x2 := (H.out.bx 0 rfl 2 _ rfl).1
  cases b1 with
  | false =>
    go_wp2_with (go_at_call 66; (with_reducible refine (HT1.out _).mono ?_); rintro e w2 ⟨rfl, hw⟩; subst hw)
    go_ret
    exact ⟨by rw [HQ.out]; rfl, H.out.bel⟩
  | true =>
    cases b2 with
    | false =>
      go_wp2_with (first | (go_at_call 66; (with_reducible refine (HT1.out _).mono ?_); rintro e w2 ⟨rfl, hw⟩; subst hw) | (go_at_call 66; (with_reducible refine (HT2.out _).mono ?_); rintro e w2 ⟨rfl, hw⟩; subst hw))
      go_ret
      exact ⟨by rw [HQ.out]; rfl, H.out.bel⟩
    | true =>
      obtain ⟨p0, p1⟩ := HB1.out rfl
      obtain ⟨q0, q1⟩ := HB2.out rfl
      have HE : Shut (R = decide (time ≤ now - seen)) := ⟨by rw [HQ.out]; rfl⟩
      go_wp2_with (first | (go_at_call 66; (with_reducible refine (HT1.out _).mono ?_); rintro e w2 ⟨rfl, hw⟩; subst hw) | (go_at_call 66; (with_reducible refine (HT2.out _).mono ?_); rintro e w2 ⟨rfl, hw⟩; subst hw))
      go_ret
      exact ⟨by rw [HE.out]; rfl, H.out.bel⟩
set_option maxRecDepth 100000 in
theorem implMayGoTo (f g : LsM) (w : World) : Calls Try.prog 59 #[lsv f, lsv g] w fun e w' => e = .returned (.bool (mayX f g.who g.seen)) ∧ Below w.heap.size w w' := by
  have HS0 := Shut.mk (((SL.start w).new #[.string f.path, .int .i64 f.who, .int .i64 f.seen] 35).new #[.string g.path, .int .i64 g.who, .int .i64 g.seen] 35)
  simp only [World.size_alloc] at HS0
  have HA := Shut.mk (fun W => implSeenAgo f 5 g.seen W)
  obtain ⟨R, hR⟩ : ∃ R, R = mayX f g.who g.seen := ⟨_, rfl⟩
  rw [← hR]
  have HQ : Shut (R = ((f.who == g.who) || agoX f 5 g.seen)) := ⟨hR⟩
  clear hR
  generalize agoX f 5 g.seen = ba at HA HQ
  obtain ⟨fp, fw, fs⟩ := f
  obtain ⟨gp, gw, gs⟩ := g
  dsimp only at *
  go_enter Try.func59, Try.ntmps59
  go_upto_region 1 with fail
  refine wp_shade (fun W => SL w W [bxS (w.heap.size + 1) [.string gp, .int .i64 gw, .int .i64 gs], bxS w.heap.size [.string fp, .int .i64 fw, .int .i64 fs]]) HS0.out ?_
  intro W0 hW
  have H := Shut.mk hW
  clear HS0 hW
  have x0 := (H.out.bx 1 rfl 0 _ rfl).1
  have x1 := (H.out.bx 1 rfl 1 _ rfl).1
  have x2 := (H.out.bx 1 rfl 2 _ rfl).1
  have y1 := (H.out.bx 0 rfl 1 _ rfl).1
  have y2 := (H.out.bx 0 rfl 2 _ rfl).1
  by_cases hw : fw = gw
  · have hw' : (fw == gw) = true := by simpa using hw
    have HE : Shut (R = true) := ⟨by rw [HQ.out, hw']; rfl⟩
    clear hw
    go_wp2_with fail
    go_ret
    exact ⟨by rw [HE.out]; rfl, H.out.bel⟩
  · have hw' : (fw == gw) = false := by simpa using hw
    have HE : Shut (R = ba) := ⟨by rw [HQ.out, hw']; rfl⟩
    clear hw
    go_wp2_with (go_at_call 64; refine (HA.out _).mono ?_; rintro e w2 ⟨rfl, hb⟩; have H2 := Shut.mk (H.out.below hb); clear hb x0 x1 x2 y1 y2)
    go_ret
    exact ⟨by rw [HE.out]; rfl, H2.out.bel⟩
end Go.Proofs.Ytcnjjbgilpgceaa
/- LtB: The program's own LeasesOk; the library's slices.BinarySearchFunc over leases that go up. -/
namespace Go.Proofs.Ytcnjjbgilpgceaa
set_option maxRecDepth 100000
open Go.RowKit BigFrame
attribute [local go_sem ↓] Go.wp_at_zero Go.wp_at_succ

set_option maxRecDepth 100000 in
set_option maxHeartbeats 4000000 in
theorem implLeasesOk (us : List LsM) (a : Option Addr) (cap : Nat) (w : World) (hr : LsRow w a us) (hl : us.length ≤ 1048576) (hf : ∀ u ∈ us, u.path.size ≤ 1048576) :
    Calls Try.prog 18 #[.slice a us.length cap] w fun e w' => e = .returned (.bool (leasesOk us)) ∧ Below w.heap.size w w' := by
  have HR := Shut.mk hr
  have HF := Shut.mk hf
  clear hr hf
  obtain ⟨n, hn⟩ : ∃ n, n = us.length := ⟨_, rfl⟩
  have HN := Shut.mk hn
  rw [← hn] at hl ⊢
  clear hn
  obtain ⟨R, hR⟩ : ∃ R, R = leasesOk us := ⟨_, rfl⟩
  rw [← hR]
  have HQ := Shut.mk hR
  clear hR
  by_cases h8 : 8 < n
  · have HE : Shut (R = false) := ⟨by
      rw [HQ.out]
      cases hq : leasesOk us with
      | false => rfl
      | true => have := leasesOk_len hq; have := HN.out; omega⟩
    go_enter Try.func18, Try.ntmps18
    go_wp2_with fail
    go_ret
    exact ⟨by rw [HE.out]; rfl, Below.refl _ _⟩
  go_enter Try.func18, Try.ntmps18
  go_wp2_with fail
  go_loopw [10] (fun i wr => ∃ (k : Nat), i = .int .i64 k ∧ k ≤ n ∧ Shut (∀ j, j < k → lsAt us j = true) ∧ Shut (Below w.heap.size w wr)) (fun i _ => n - (intOf i).toNat)
  case atStart => exact ⟨0, rfl, Nat.zero_le _, ⟨fun j hj => by omega⟩, ⟨Below.refl _ _⟩⟩
  case round =>
    obtain ⟨k, rfl, hk, HG, HW⟩ := hrel
    by_cases hlt : k < n
    · have hku : k < us.length := by rw [← HN.out]; exact hlt
      obtain ⟨b, off, u, rfl, hu, lb, hc⟩ := ls_at HR.out HW.out hku
      obtain ⟨d0, d1, d2⟩ := hc wr (Below.refl _ _)
      have HU : Shut (us.getD k default = u) := ⟨(getD_ls us k hku).trans hu.symm⟩
      have k0 : (0 : Int) ≤ (k : Int) := by omega
      have k1 : (k : Int) < (n : Int) := by omega
      have HNO : Shut (lsAt us k = false → R = false) := ⟨fun h => HQ.out.trans (leasesOk_no hku h)⟩
      have HONE : Shut (lsAt us k = (lsOne u && (decide (k = 0) || lt9 (us.getD (k - 1) default).path u.path))) := ⟨by unfold lsAt; rw [HU.out]⟩
      have HLO := Shut.mk (fun W => implLeaseOk u W (by rw [hu]; exact HF.out _ (List.getElem_mem hku)))
      have HS0 := Shut.mk ((SL.start wr).new #[.string u.path, .int .i64 u.who, .int .i64 u.seen] 35)
      have HCC := Shut.mk (fun (W : World) (hb : Below wr.heap.size wr W) => hc W hb)
      have lbw : b < wr.heap.size := Nat.lt_of_lt_of_le lb HW.out.size
      clear hc hu
      go_upto_region 6 with fail
      refine wp_shade (fun W => SL wr W [bxS wr.heap.size [.string u.path, .int .i64 u.who, .int .i64 u.seen]]) HS0.out ?_
      intro W0 hW
      have H := Shut.mk hW
      have lq : wr.heap.size < W0.heap.size := (H.out.at 0 rfl).1
      have g0 : ∀ X : Grow W0, X.val.cell? ⟨wr.heap.size, 0, none⟩ = some (.string u.path) := fun X => X.cell (H.out.bx 0 rfl 0 _ rfl).1 lq
      have g1 : ∀ X : Grow W0, X.val.cell? ⟨wr.heap.size, 1, none⟩ = some (.int .i64 u.who) := fun X => X.cell (H.out.bx 0 rfl 1 _ rfl).1 lq
      have g2 : ∀ X : Grow W0, X.val.cell? ⟨wr.heap.size, 2, none⟩ = some (.int .i64 u.seen) := fun X => X.cell (H.out.bx 0 rfl 2 _ rfl).1 lq
      have HGR : Shut (∀ X : Grow W0, Below w.heap.size w X.val) := ⟨fun X => HW.out.trans ((H.out.bel.trans (X.bel.mono H.out.bel.size)).mono HW.out.size)⟩
      have HCW : Shut (∀ X : Grow W0, Below wr.heap.size wr X.val) := ⟨fun X => H.out.bel.trans (X.bel.mono H.out.bel.size)⟩
      have HLC := Shut.mk (fun X => calls_grow (w := W0) (fun W' (_ : Below W0.heap.size W0 W') => HLO.out W') X)
      clear HS0 hW d0 d1 d2 HLO lbw
      cases hone : lsOne u with
      | false =>
        rw [hone] at HLC HONE
        refine wp_region_grow (by kernel_rfl) (by kernel_rfl) ?_
        repeat (go_big_quiet_step (first | (go_at_call 45; with_reducible exact HLC.out _)))
        refine wpQuiet_nil ?_
        rintro _ ⟨X, rfl⟩
        clear g0 g1 g2
        go_wp2_with fail
        go_ret
        exact ⟨by rw [HNO.out (by rw [HONE.out]; rfl)]; rfl, HGR.out X⟩
      | true =>
        rw [hone] at HLC HONE
        by_cases hz : k = 0
        case pos =>
          have hz2 : ¬ 0 < k := by omega
          have hz' : decide (0 < k) = false := by simp; omega
          have hzd : decide (k = 0) = true := by simpa using hz
          clear hz
          refine wp_region_grow (by kernel_rfl) (by kernel_rfl) ?_
          repeat (go_big_quiet_step (first | (go_at_call 45; with_reducible exact HLC.out _)))
          refine wpQuiet_nil ?_
          rintro _ ⟨X, rfl⟩
          clear g0 g1 g2
          go_wp2_with fail
          go_roundw
          case rel => exact ⟨k + 1, by go_num, by omega, ⟨fun j hj => by rcases Nat.lt_succ_iff_lt_or_eq.1 hj with h | h; exact HG.out j h; subst h; rw [HONE.out]; simp [*]⟩, ⟨HGR.out X⟩⟩
          case measure => simp [intOf]; omega
        have hzd : decide (k = 0) = false := by simpa using hz
        have hz' : decide (0 < k) = true := by simp; omega
        have hz3 : 0 < k := by omega
        obtain ⟨b', off', y, e', hy, _, hc2⟩ := ls_at HR.out HW.out (k := k - 1) (by omega)
        obtain ⟨rfl, rfl⟩ : b = b' ∧ off = off' := by simpa using e'
        have HY : Shut (us.getD (k - 1) default = y) := ⟨(getD_ls us (k - 1) (by omega)).trans hy.symm⟩
        have p0 : ∀ X : Grow W0, X.val.cell? ⟨b, off + (k - 1) * 3, none⟩ = some (.string y.path) := fun X => (hc2 X.val (HCW.out X)).1
        have p1 : ∀ X : Grow W0, X.val.cell? ⟨b, off + (k - 1) * 3 + 1, none⟩ = some (.int .i64 y.who) := fun X => (hc2 X.val (HCW.out X)).2.1
        have p2 : ∀ X : Grow W0, X.val.cell? ⟨b, off + (k - 1) * 3 + 2, none⟩ = some (.int .i64 y.seen) := fun X => (hc2 X.val (HCW.out X)).2.2
        have hk1 : (k : Int) - 1 = ((k - 1 : Nat) : Int) := by omega
        have hk2 : (0 : Int) ≤ ((k - 1 : Nat) : Int) := by omega
        have hk3 : ((k - 1 : Nat) : Int) < (n : Int) := by omega
        have HCM := Shut.mk (fun X => calls_grow (w := W0) (fun W' (_ : Below W0.heap.size W0 W') => implCompareLeases y u W') X)
        have HNG := Shut.mk (cmpS_neg y.path u.path)
        have HO2 : Shut (lsAt us k = lt9 y.path u.path) := ⟨by rw [HONE.out, hzd, HY.out]; rfl⟩
        generalize cmpS y.path u.path = cv at HCM HNG
        clear hy e' hc2 hz
        by_cases hcv : cv < 0
        · have hcv2 : ¬ 0 ≤ cv := by omega
          refine wp_region_grow (by kernel_rfl) (by kernel_rfl) ?_
          repeat (go_big_quiet_step (first | (go_at_call 45; with_reducible exact HLC.out _) | (go_at_call 46; with_reducible exact HCM.out _)))
          refine wpQuiet_nil ?_
          rintro _ ⟨X, rfl⟩
          clear g0 g1 g2 p0 p1 p2
          go_wp2_with fail
          go_roundw
          case rel => exact ⟨k + 1, by go_num, by omega, ⟨fun j hj => by rcases Nat.lt_succ_iff_lt_or_eq.1 hj with h | h; exact HG.out j h; subst h; rw [HO2.out]; exact HNG.out.1 hcv⟩, ⟨HGR.out X⟩⟩
          case measure => simp [intOf]; omega
        · have hcv2 : 0 ≤ cv := by omega
          have HE : Shut (R = false) := ⟨HNO.out (by
            rw [HO2.out]
            cases hq : lt9 y.path u.path with
            | false => rfl
            | true => exact absurd (HNG.out.2 hq) hcv)⟩
          refine wp_region_grow (by kernel_rfl) (by kernel_rfl) ?_
          repeat (go_big_quiet_step (first | (go_at_call 45; with_reducible exact HLC.out _) | (go_at_call 46; with_reducible exact HCM.out _)))
          refine wpQuiet_nil ?_
          rintro _ ⟨X, rfl⟩
          clear g0 g1 g2 p0 p1 p2
          go_wp2_with fail
          go_ret
          exact ⟨by rw [HE.out]; rfl, HGR.out X⟩
    · obtain rfl : n = k := by omega
      have HE : Shut (R = true) := ⟨by
        rw [HQ.out, leasesOk_is fun j hj => HG.out j (by have := HN.out; omega), decide_eq_true_eq]
        have := HN.out
        omega⟩
      go_wp2_with fail
      go_ret
      exact ⟨by rw [HE.out]; rfl, HW.out⟩
set_option maxRecDepth 100000 in
set_option maxHeartbeats 2000000 in
theorem searchLease (us : List LsM) (a : Option Addr) (n cap : Nat) (u : LsM) (w : World) (hr : LsRow w a us) (hn : n = us.length) (hl : n ≤ 9000000) (hs : UpL us) :
    Calls Try.prog 58 #[.slice a n cap, lsv u, .func (.func 46) #[] #[]] w fun e w' => e = .returned (.tuple #[.int .i64 (posL us u.path), .bool (hereL us u.path)]) ∧ Below w.heap.size w w' := by
  have HS0 := Shut.mk ((SL.start w).new #[.string u.path, .int .i64 u.who, .int .i64 u.seen] 35)
  have HR := Shut.mk hr
  have HN := Shut.mk hn
  have HUP := Shut.mk hs
  clear hr hn hs
  go_enter Try.func58, Try.ntmps58
  go_upto_region 1 with fail
  refine wp_shade (fun W => SL w W [bxS w.heap.size [.string u.path, .int .i64 u.who, .int .i64 u.seen]]) HS0.out ?_
  intro W0 hW
  have HW := Shut.mk hW
  clear HS0 hW
  go_wp2_with fail
  go_loopw [9, 10] (fun v9 v10 wr => ∃ (p q : Nat), v9 = .int .i64 p ∧ v10 = .int .i64 q ∧ p ≤ q ∧ q ≤ n ∧ Shut (∀ j (hj : j < us.length), j < p → lt9 us[j].path u.path = true) ∧ Shut (∀ j (hj : j < us.length), q ≤ j → lt9 us[j].path u.path = false) ∧ Shut (SL w wr [bxS w.heap.size [.string u.path, .int .i64 u.who, .int .i64 u.seen]])) (fun v9 v10 _ => (intOf v10).toNat - (intOf v9).toNat)
  case atStart => exact ⟨0, n, rfl, rfl, Nat.zero_le _, Nat.le_refl _, ⟨fun j _ hj => by omega⟩, ⟨fun j hj hq => by have := HN.out; omega⟩, HW⟩
  case round =>
    clear HW
    obtain ⟨p, q, rfl, rfl, hpq, hqn, HLO, HHI, HW⟩ := hrel
    have lq : w.heap.size < wr.heap.size := (HW.out.at 0 rfl).1
    have g0 : ∀ X : Grow wr, X.val.cell? ⟨w.heap.size, 0, none⟩ = some (.string u.path) := fun X => X.cell (HW.out.bx 0 rfl 0 _ rfl).1 lq
    have g1 : ∀ X : Grow wr, X.val.cell? ⟨w.heap.size, 1, none⟩ = some (.int .i64 u.who) := fun X => X.cell (HW.out.bx 0 rfl 1 _ rfl).1 lq
    have g2 : ∀ X : Grow wr, X.val.cell? ⟨w.heap.size, 2, none⟩ = some (.int .i64 u.seen) := fun X => X.cell (HW.out.bx 0 rfl 2 _ rfl).1 lq
    have HGR : Shut (∀ X : Grow wr, SL w X.val [bxS w.heap.size [.string u.path, .int .i64 u.who, .int .i64 u.seen]]) := ⟨fun X => HW.out.below X.bel⟩
    have HNN := Shut.mk HN.out
    by_cases hlt : p < q
    · have hlt' : (p : Int) < (q : Int) := by omega
      obtain ⟨h, hh⟩ : ∃ h, h = (p + q) / 2 := ⟨_, rfl⟩
      have hhu : h < us.length := by have := HN.out; omega
      obtain ⟨b, off, x, rfl, hx, lb, hc⟩ := ls_at HR.out HW.out.bel hhu
      have p0 : ∀ X : Grow wr, X.val.cell? ⟨b, off + h * 3, none⟩ = some (.string x.path) := fun X => (hc X.val X.bel).1
      have p1 : ∀ X : Grow wr, X.val.cell? ⟨b, off + h * 3 + 1, none⟩ = some (.int .i64 x.who) := fun X => (hc X.val X.bel).2.1
      have p2 : ∀ X : Grow wr, X.val.cell? ⟨b, off + h * 3 + 2, none⟩ = some (.int .i64 x.seen) := fun X => (hc X.val X.bel).2.2
      have HCM := Shut.mk (fun X => calls_grow (w := wr) (fun W' (_ : Below wr.heap.size wr W') => implCompareLeases x u W') X)
      have HNG := Shut.mk (cmpS_neg x.path u.path)
      generalize cmpS x.path u.path = cv at HCM HNG
      have hdiv : ((p : Int) + (q : Int)) / 2 = (h : Int) := by omega
      have HPQ : Shut (p ≤ h ∧ h < q) := ⟨by omega⟩
      have h0 : (0 : Int) ≤ (h : Int) := by omega
      have h1 : (h : Int) < (n : Int) := by omega
      have HX : Shut (x = us[h]) := ⟨hx⟩
      clear hc hx hh
      go_upto_region 5 with fail
      have HST : Shut (∀ j (hj : j < us.length) k (hk : k < us.length), j < k → lt9 us[j].path us[k].path = true) := ⟨fun j hj k hk h => List.pairwise_iff_getElem.1 HUP.out j k hj hk h⟩
      by_cases hcv : cv < 0
      · have hx := HNG.out.1 hcv
        have HL2 : Shut (∀ j (hj : j < us.length), j < h + 1 → lt9 us[j].path u.path = true) := ⟨fun j hj hjh => by
          rcases Nat.lt_succ_iff_lt_or_eq.1 hjh with e | e
          · have := HST.out j hj h hhu e
            rw [← HX.out] at this
            exact lt9_trans this hx
          · subst e; rw [← HX.out]; exact hx⟩
        have hcd : decide (cv < 0) = true := by simpa using hcv
        clear hx
        refine wp_region_grow (by kernel_rfl) (by kernel_rfl) ?_
        repeat (go_big_quiet_step (first | (go_at_call 46; with_reducible exact HCM.out _)))
        refine wpQuiet_nil ?_
        rintro _ ⟨X, rfl⟩
        clear g0 g1 g2 p0 p1 p2
        go_wp2_with fail
        go_roundw
        case rel => exact ⟨h + 1, q, by go_num, rfl, by have := HPQ.out; omega, hqn, HL2, HHI, ⟨HGR.out X⟩⟩
        case measure => have := HPQ.out; simp [intOf]; omega
      · have hx : lt9 x.path u.path = false := by
          cases hq : lt9 x.path u.path with
          | false => rfl
          | true => exact absurd (HNG.out.2 hq) hcv
        have HH2 : Shut (∀ j (hj : j < us.length), h ≤ j → lt9 us[j].path u.path = false) := ⟨fun j hj hjh => by
          rcases Nat.lt_or_eq_of_le hjh with e | e
          · cases hq : lt9 us[j].path u.path with
            | false => rfl
            | true =>
              have := lt9_trans (HST.out h hhu j hj e) hq
              rw [← HX.out, hx] at this
              cases this
          · subst e; rw [← HX.out]; exact hx⟩
        have hcd : decide (cv < 0) = false := by simpa using hcv
        clear hx
        refine wp_region_grow (by kernel_rfl) (by kernel_rfl) ?_
        repeat (go_big_quiet_step (first | (go_at_call 46; with_reducible exact HCM.out _)))
        refine wpQuiet_nil ?_
        rintro _ ⟨X, rfl⟩
        clear g0 g1 g2 p0 p1 p2
        go_wp2_with fail
        go_roundw
        case rel => exact ⟨p, h, rfl, rfl, by have := HPQ.out; omega, by have := HPQ.out; omega, HLO, HH2, ⟨HGR.out X⟩⟩
        case measure => have := HPQ.out; simp [intOf]; omega
    · obtain rfl : p = q := by omega
      go_upto_region 8 with fail
      by_cases hpn : p < n
      · have hpu : p < us.length := by have := HN.out; omega
        obtain ⟨b, off, x, rfl, hx, lb, hc⟩ := ls_at HR.out HW.out.bel hpu
        have p0 : ∀ X : Grow wr, X.val.cell? ⟨b, off + p * 3, none⟩ = some (.string x.path) := fun X => (hc X.val X.bel).1
        have p1 : ∀ X : Grow wr, X.val.cell? ⟨b, off + p * 3 + 1, none⟩ = some (.int .i64 x.who) := fun X => (hc X.val X.bel).2.1
        have p2 : ∀ X : Grow wr, X.val.cell? ⟨b, off + p * 3 + 2, none⟩ = some (.int .i64 x.seen) := fun X => (hc X.val X.bel).2.2
        have HCM := Shut.mk (fun X => calls_grow (w := wr) (fun W' (_ : Below wr.heap.size wr W') => implCompareLeases x u W') X)
        have HCT : Shut (p = posL us u.path ∧ (cmpS x.path u.path == 0) = hereL us u.path) := ⟨by
          have e := pos_is (p := u.path) (i := p) (by have := HN.out; omega) HLO.out HHI.out
          refine ⟨e.symm, ?_⟩
          have hz := cmpS_zero x.path u.path
          have hh := here_iff HUP.out u.path
          rw [e] at hh
          rw [Bool.eq_iff_iff, hh, beq_iff_eq, hz, hx]
          exact ⟨fun q => ⟨hpu, q⟩, fun ⟨_, q⟩ => q⟩⟩
        generalize cmpS x.path u.path = cv at HCM HCT
        have hpd : decide ((p : Int) < (n : Int)) = true := by simp; omega
        have hpi : (p : Int) < (n : Int) := by omega
        have hp0 : (0 : Int) ≤ (p : Int) := by omega
        clear hc hx
        refine wp_region_grow (by kernel_rfl) (by kernel_rfl) ?_
        repeat (go_big_quiet_step (first | (go_at_call 46; with_reducible exact HCM.out _)))
        refine wpQuiet_nil ?_
        rintro _ ⟨X, rfl⟩
        clear g0 g1 g2 p0 p1 p2
        go_wp2_with fail
        go_ret2
        exact ⟨by rw [← HCT.out.1, ← HCT.out.2]; rfl, (HGR.out X).bel⟩
      · have HCT : Shut (p = posL us u.path ∧ false = hereL us u.path) := ⟨by
          have e := pos_is (p := u.path) (i := p) (by have := HN.out; omega) HLO.out HHI.out
          refine ⟨e.symm, ?_⟩
          have hh := here_iff HUP.out u.path
          rw [e] at hh
          cases hq : hereL us u.path with
          | false => rfl
          | true => obtain ⟨q, _⟩ := hh.1 hq; have := HN.out; omega⟩
        have hpd : decide ((p : Int) < (n : Int)) = false := by simp; omega
        have hpd2 : decide (p < n) = false := by simp; omega
        refine wp_region_grow (by kernel_rfl) (by kernel_rfl) ?_
        repeat (go_big_quiet_step (fail))
        refine wpQuiet_nil ?_
        rintro _ ⟨X, rfl⟩
        clear g0 g1 g2
        go_wp2_with fail
        go_ret2
        exact ⟨by rw [← HCT.out.1, ← HCT.out.2]; rfl, (HGR.out X).bel⟩
end Go.Proofs.Ytcnjjbgilpgceaa
/- MuL: The lock's functions and types in this seat, by number. -/
namespace Go.Proofs.Ytcnjjbgilpgceaa
set_option maxRecDepth 100000
abbrev muLink : Go.Conc.Locks.MuLink := { lock := 56, unlock := 57, ilock := 70, iunlock := 71, lockSlow := 84, unlockSlow := 87, disable := 80, enable := 82, acquire := 83, relMerge := 85, cas32 := 81, add32 := 86, tMutex := 82, tIMutex := 80, tPMutex := 96, tPIMutex := 102, tPI32 := 104, tUP := 106, tNoCopy := 77, tU32 := 78 }
theorem muLib : Go.Conc.Locks.MuLib Try.prog muLink :=
  ⟨Try.func56, Try.func57, Try.func70, Try.func71, Try.func80, Try.func82, Try.func83, Try.func85, Try.func81, Try.func86, Try.underlying80, Try.runUnderlying80, Try.sizeOf80, Try.isAgg80, Try.zeroValue80, Try.underlying82, Try.runUnderlying82, Try.sizeOf82, Try.isAgg82, Try.zeroValue82, Try.underlying96, Try.runUnderlying96, Try.sizeOf96, Try.isAgg96, Try.zeroValue96, Try.underlying102, Try.runUnderlying102, Try.sizeOf102, Try.isAgg102, Try.zeroValue102, Try.underlying104, Try.runUnderlying104, Try.sizeOf104, Try.isAgg104, Try.zeroValue104, Try.underlying106, Try.runUnderlying106, Try.sizeOf106, Try.isAgg106, Try.zeroValue106, Try.underlying77, Try.runUnderlying77, Try.sizeOf77, Try.isAgg77, Try.zeroValue77, Try.underlying21, Try.runUnderlying21, Try.sizeOf21, Try.isAgg21, Try.zeroValue21, by kernel_rfl⟩
end Go.Proofs.Ytcnjjbgilpgceaa
/- ClS: The library's strings.Clone. -/
namespace Go.Proofs.Ytcnjjbgilpgceaa
set_option maxRecDepth 100000
open Go.RowKit BigFrame
attribute [local go_sem ↓] Go.wp_at_zero Go.wp_at_succ

set_option maxRecDepth 100000 in
theorem implClone (s : ByteArray) (w : World) (hs : s.size ≤ 281474976710656) : Calls Try.prog 61 #[.string s] w fun e w' => e = .returned (.string s) ∧ Below w.heap.size w w' := by
  have HC := Shut.mk (fun W => Try.stringslite_Clone s W hs)
  go_enter Try.func61, Try.ntmps61
  go_wp2_with fail
  refine (HC.out _).mono ?_
  rintro e w1 ⟨rfl, hb⟩
  go_wp2_with fail
  go_ret
  exact ⟨rfl, hb⟩
end Go.Proofs.Ytcnjjbgilpgceaa
/- SpP: The models' DropLease, Expired (written by gen/mklease.py). -/
namespace Go.Proofs.Ytcnjjbgilpgceaa
set_option maxRecDepth 100000
open Go.RowKit BigFrame
attribute [local go_sem ↓] Go.wp_at_zero Go.wp_at_succ
set_option maxRecDepth 100000 in
set_option maxHeartbeats 4000000 in
theorem specDropLease (us : List LsM) (a : Option Addr) (cap : Nat) (p : ByteArray) (w : World) (hr : LsRow w a us) (hl : us.length ≤ 1048576) :
    Calls Try.prog 29 #[.slice a us.length cap, .string p] w fun e w' => LsPost (dropX9 us p) w e w' := by
  obtain ⟨i0, hin, hz0, hz1, hz2⟩ := info_parts infoLease
  have HR := Shut.mk hr
  have HO := Shut.mk (OwS.new (ty := 35) (sz := 3) (SL.start w))
  obtain ⟨n, hn⟩ : ∃ n, n = us.length := ⟨_, rfl⟩
  have HN := Shut.mk hn
  rw [← hn] at hl ⊢
  clear hr hn
  go_enter Try.func29, Try.ntmps29
  go_wp2_with fail
  go_loopw [5, 6] (fun v9 i9 wr => ∃ (k m : Nat) (L : List LsM), i9 = .int .i64 k ∧ k ≤ n ∧ m ≤ k ∧ Shut (L = (us.take k).filter (fun f => !(f.path.toList == p.toList)) ∧ m = L.length) ∧ Shut (OwS w wr [] 35 3 v9 m (lsS L))) (fun _ i9 _ => n - (intOf i9).toNat)
  case atStart => exact ⟨0, 0, [], rfl, Nat.zero_le _, Nat.le_refl _, ⟨by simp⟩, HO⟩
  case round =>
    clear HO
    obtain ⟨k, m, L, rfl, hk, hm, HL, HW⟩ := hrel
    obtain ⟨av, cv, rfl⟩ := own_row_slice HW.out.own
    by_cases hlt : k < n
    · have hku : k < us.length := by rw [← HN.out]; exact hlt
      obtain ⟨b, off, x, rfl, hx, lb, hc⟩ := ls_at HR.out HW.out.sl.bel hku
      obtain ⟨d0, d1, d2⟩ := hc wr (Below.refl _ _)
      have k0 : (0 : Int) ≤ (k : Int) := by omega
      have k1 : (k : Int) < (n : Int) := by omega
      have lbw : b < wr.heap.size := Nat.lt_of_lt_of_le lb HW.out.sl.bel.size
      have HNX : Shut ((us.take (k + 1)).filter (fun f => !(f.path.toList == p.toList)) = (us.take k).filter (fun f => !(f.path.toList == p.toList)) ++ if (!(x.path.toList == p.toList)) = true then [x] else []) := ⟨by rw [hx]; exact filter_take _ us k hku⟩
      clear hc hx
      cases hq : x.path.toList == p.toList with
      | true =>
        have hq' : (x.path.toList != p.toList) = false := by rw [bne, hq]; rfl
        rw [hq] at HNX
        go_wp2_with fail
        go_roundw
        case rel => exact ⟨k + 1, m, L, by go_num, by omega, by omega, ⟨by rw [HNX.out]; simpa using HL.out⟩, HW⟩
        case measure => simp [intOf]; omega
      | false =>
        have hq' : (x.path.toList != p.toList) = true := by rw [bne, hq]; rfl
        rw [hq] at HNX
        have hown := HW.out.own
        have hbs := HW.out.sl.bel.size
        go_wp2_with (at_builtin; refine wpList_append_own_at _ rfl _ _ 24 rfl w.heap.size 35 i0 _ 3 32 Try.underlying24 hin hz0 hz1 hz2 rfl (by decide) _ _ _ rfl (hown.alloc _) ⟨wr.heap.size, 0, none⟩ 1 1 [.string x.path, .int .i64 x.who, .int .i64 x.seen] rfl rfl (World.news_of_block (cs := #[.string x.path, .int .i64 x.who, .int .i64 x.seen]) (t := 35) (fr := (0, 0)) (heap_alloc_new wr _)) ?c25 ?c35 ?c45 ?c55 ?_)
        case c25 => simp [Value.oneCell']
        case c35 => unfold maxLen; omega
        case c45 => omega
        case c55 => first | omega | (simp; omega)
        intro v5 w5 ho hg _ hat
        have HL5 := Shut.mk (HW.out.more ((Below.refl _ _).alloc (Nat.le_refl _) _) ho hg (by simpa using hat))
        clear ho hg hat hown hbs
        go_wp2_with fail
        go_roundw
        case rel => exact ⟨k + 1, m + 1, L ++ [x], by go_num, by omega, by omega, ⟨⟨by rw [HNX.out]; simp only [Bool.not_false, if_true]; rw [← HL.out.1], by rw [List.length_append, ← HL.out.2]; rfl⟩⟩, ⟨by rw [lss_snoc]; exact HL5.out⟩⟩
        case measure => simp [intOf]; omega
    · obtain rfl : n = k := by omega
      have HE : Shut (dropX9 us p = L) := ⟨by rw [HL.out.1, List.take_of_length_le (by have := HN.out; omega)]; rfl⟩
      obtain ⟨a8, c8, e8, hf8, hc8⟩ := HW.out.frw
      obtain ⟨rfl, rfl⟩ : av = a8 ∧ cv = c8 := by simpa using e8
      have HF8 := Shut.mk hf8
      clear hf8 e8
      go_wp2_with fail
      go_ret
      rw [HE.out]
      exact ⟨av, cv, by rw [← HL.out.2]; rfl, HF8.out, by rw [← HL.out.2]; exact hc8, HW.out.sl.bel⟩
theorem infoStr16 : (Try.prog.info? 9).map (fun i => (i.zero, i.size, i.bytes)) = some (some (.string ⟨#[]⟩), 1, 16) := by kernel_rfl
/-- A row of texts that is answered. -/
def TxPost (L : List ByteArray) (w : World) (e : Ending) (w' : World) : Prop := ∃ a c, e = .returned (.slice a L.length c) ∧ FRw w' a (tv L) w.heap.size w'.heap.size ∧ L.length ≤ c ∧ Below w.heap.size w w'
set_option maxRecDepth 100000 in
set_option maxHeartbeats 4000000 in
theorem specExpired (us : List LsM) (a : Option Addr) (cap : Nat) (now : Int) (w : World) (hr : LsRow w a us) (hl : us.length ≤ 1048576) :
    Calls Try.prog 20 #[.slice a us.length cap, .int .i64 now] w fun e w' => TxPost (expiredX us now) w e w' := by
  obtain ⟨i0, hin, hz0, hz1, hz2⟩ := info_parts infoStr16
  have HR := Shut.mk hr
  have HO := Shut.mk (OwS.new (ty := 9) (sz := 1) (SL.start w))
  obtain ⟨n, hn⟩ : ∃ n, n = us.length := ⟨_, rfl⟩
  have HN := Shut.mk hn
  rw [← hn] at hl ⊢
  clear hr hn
  go_enter Try.func20, Try.ntmps20
  go_wp2_with fail
  go_loopw [5, 6] (fun v9 i9 wr => ∃ (k m : Nat) (L : List ByteArray), i9 = .int .i64 k ∧ k ≤ n ∧ m ≤ k ∧ Shut (L = ((us.take k).filter (fun f => isOld f now)).map (·.path) ∧ m = L.length) ∧ Shut (OwS w wr [] 9 1 v9 m (tv L))) (fun _ i9 _ => n - (intOf i9).toNat)
  case atStart => exact ⟨0, 0, [], rfl, Nat.zero_le _, Nat.le_refl _, ⟨by simp⟩, HO⟩
  case round =>
    clear HO
    obtain ⟨k, m, L, rfl, hk, hm, HL, HW⟩ := hrel
    obtain ⟨av, cv, rfl⟩ := own_row_slice HW.out.own
    by_cases hlt : k < n
    · have hku : k < us.length := by rw [← HN.out]; exact hlt
      obtain ⟨b, off, x, rfl, hx, lb, hc⟩ := ls_at HR.out HW.out.sl.bel hku
      obtain ⟨d0, d1, d2⟩ := hc wr (Below.refl _ _)
      have k0 : (0 : Int) ≤ (k : Int) := by omega
      have k1 : (k : Int) < (n : Int) := by omega
      have lbw : b < wr.heap.size := Nat.lt_of_lt_of_le lb HW.out.sl.bel.size
      have HNX : Shut (((us.take (k + 1)).filter (fun f => isOld f now)).map (·.path) = ((us.take k).filter (fun f => isOld f now)).map (·.path) ++ if isOld x now = true then [x.path] else []) := ⟨by rw [filter_take _ us k hku, ← hx, List.map_append]; congr 1; split <;> rfl⟩
      clear hc hx
      cases h1 : inI x.seen 0 1000000000 with
      | false =>
        rw [show isOld x now = false by unfold isOld; rw [h1]; rfl] at HNX
        have I1 := Shut.mk (fun W => isInI x.seen 0 1000000000 W false h1)
        go_wp2_with (go_at_call 47; refine (I1.out _).mono ?_; rintro e w1 ⟨rfl, rfl⟩)
        go_roundw
        case rel => exact ⟨k + 1, m, L, by go_num, by omega, by omega, ⟨by rw [HNX.out]; simpa using HL.out⟩, HW⟩
        case measure => simp [intOf]; omega
      | true =>
        have I1 := Shut.mk (fun W => isInI x.seen 0 1000000000 W true h1)
        have hx1 := inI_iff.1 h1
        cases h2 : inI now 0 1000000000 with
        | false =>
          rw [show isOld x now = false by unfold isOld; rw [h1, h2]; rfl] at HNX
          have I2 := Shut.mk (fun W => isInI now 0 1000000000 W false h2)
          clear hx1
          go_wp2_with (go_at_call 47; first | ((with_reducible refine (I1.out _).mono ?_); rintro e w1 ⟨rfl, rfl⟩) | ((with_reducible refine (I2.out _).mono ?_); rintro e w1 ⟨rfl, rfl⟩))
          go_roundw
          case rel => exact ⟨k + 1, m, L, by go_num, by omega, by omega, ⟨by rw [HNX.out]; simpa using HL.out⟩, HW⟩
          case measure => simp [intOf]; omega
        | true =>
          have I2 := Shut.mk (fun W => isInI now 0 1000000000 W true h2)
          have hx2 := inI_iff.1 h2
          obtain ⟨x1, x2⟩ := hx1
          obtain ⟨x3, x4⟩ := hx2
          by_cases h3 : 12 ≤ now - x.seen
          · have h3' : decide (12 ≤ now - x.seen) = true := by simpa using h3
            rw [show isOld x now = true by unfold isOld; rw [h1, h2, h3']; rfl] at HNX
            go_upto_region 6 with (go_at_call 47; first | ((with_reducible refine (I1.out _).mono ?_); rintro e w1 ⟨rfl, rfl⟩) | ((with_reducible refine (I2.out _).mono ?_); rintro e w1 ⟨rfl, rfl⟩))
            have hown := HW.out.own
            have hbs := HW.out.sl.bel.size
            go_wp2_with (at_builtin; refine wpList_append_own_at _ rfl _ _ 32 rfl w.heap.size 9 i0 _ 1 16 Try.underlying32 hin hz0 hz1 hz2 rfl (by decide) _ _ _ rfl (hown.alloc _) ⟨w1.heap.size, 0, none⟩ 1 1 [.string x.path] rfl rfl (World.news_of_block (cs := #[.string x.path]) (t := 9) (fr := (0, 0)) (heap_alloc_new w1 _)) ?c25 ?c35 ?c45 ?c55 ?_)
            case c25 => simp [Value.oneCell']
            case c35 => unfold maxLen; omega
            case c45 => omega
            case c55 => first | omega | (simp; omega)
            intro v5 w5 ho hg _ hat
            have HL5 := Shut.mk (HW.out.more ((Below.refl _ _).alloc (Nat.le_refl _) _) ho hg (by simpa using hat))
            clear ho hg hat hown hbs
            go_wp2_with fail
            go_roundw
            case rel => exact ⟨k + 1, m + 1, L ++ [x.path], by go_num, by omega, by omega, ⟨⟨by rw [HNX.out]; simp only [if_true]; rw [← HL.out.1], by rw [List.length_append, ← HL.out.2]; rfl⟩⟩, ⟨by rw [show tv (L ++ [x.path]) = tv L ++ [.string x.path] by simp [tv]]; exact HL5.out⟩⟩
            case measure => simp [intOf]; omega
          · have h3' : decide (12 ≤ now - x.seen) = false := by simpa using h3
            rw [show isOld x now = false by unfold isOld; rw [h1, h2, h3']; rfl] at HNX
            go_wp2_with (go_at_call 47; first | ((with_reducible refine (I1.out _).mono ?_); rintro e w1 ⟨rfl, rfl⟩) | ((with_reducible refine (I2.out _).mono ?_); rintro e w1 ⟨rfl, rfl⟩))
            go_roundw
            case rel => exact ⟨k + 1, m, L, by go_num, by omega, by omega, ⟨by rw [HNX.out]; simpa using HL.out⟩, HW⟩
            case measure => simp [intOf]; omega
    · obtain rfl : n = k := by omega
      have HE : Shut (expiredX us now = L) := ⟨by rw [HL.out.1, List.take_of_length_le (by have := HN.out; omega)]; rfl⟩
      obtain ⟨a8, c8, e8, hf8, hc8⟩ := HW.out.frw
      obtain ⟨rfl, rfl⟩ : av = a8 ∧ cv = c8 := by simpa using e8
      have HF8 := Shut.mk hf8
      clear hf8 e8
      go_wp2_with fail
      go_ret
      rw [HE.out]
      exact ⟨av, cv, by rw [← HL.out.2]; rfl, HF8.out, by rw [← HL.out.2]; exact hc8, HW.out.sl.bel⟩
end Go.Proofs.Ytcnjjbgilpgceaa
