/- Rows of texts that the call made, from any place of their block on: made longer; what answers of texts and a flag are. -/
import Derived.Test.YtendbipfmgnjkaaOffA
import Derived.Test.YtendbipfmgnjkaaGuardA
import Derived.ArgAppend
namespace Go.Proofs.Ytendbipfmgnjkaa
set_option maxRecDepth 100000
open Go.RowKit

/-- A text in a slice of which more is there than its length. -/
def CSee (w : World) (v : Value) (L : List ByteArray) (lo hi : Nat) : Prop := ∃ (a : Option Addr) (cap : Nat), v = .slice a L.length cap ∧ L.length ≤ cap ∧ RRow w a (tv L) lo hi
theorem CSee.see {w : World} {v : Value} {L : List ByteArray} {lo hi : Nat} (h : CSee w v L lo hi) : SSee w v L lo hi := by
  obtain ⟨a, cap, e, _, h1⟩ := h
  exact ⟨a, cap, e, h1⟩
theorem OAns.csee {w : World} {v : Value} {L : List ByteArray} {lo hi : Nat} (h : OAns w v L lo hi) : CSee w v L lo hi := by
  obtain ⟨a, cap, e, hr⟩ := h.see
  obtain ⟨a', cap', e', hc, _⟩ := h
  rw [e] at e'
  cases e'
  exact ⟨a, cap, e, hc, hr⟩
/-- A row of texts of the call's own, from any place of its block on. -/
def OwnAt (w : World) (base : Nat) (v : Value) (n : Nat) (L : List ByteArray) : Prop :=
  L.length = n ∧ ((v = .slice none 0 0 ∧ n = 0) ∨ ∃ g off cap, v = .slice (some ⟨g, off, none⟩) n cap ∧ base ≤ g ∧ n ≤ cap ∧ (∀ j, j < cap → (w.cell? ⟨g, off + j, none⟩).isSome = true ∧ w.frozen? ⟨g, off + j, none⟩ = false) ∧ OCells w g off L)
theorem OwnAt.nil (w : World) (base : Nat) : OwnAt w base (.slice none 0 0) 0 [] := ⟨rfl, .inl ⟨rfl, rfl⟩⟩
theorem own_cell1 {w : World} {g : Nat} {cur : Array Value} (hg : w.heap[g]? = some (.cells cur 9 (0, 0))) (j : Nat) (hj : j < cur.size) : (w.cell? ⟨g, j, none⟩).isSome = true ∧ w.frozen? ⟨g, j, none⟩ = false := by
  refine ⟨?_, ?_⟩
  · simp [World.cell?, hg, hj]
  · simp [World.frozen?, hg]
theorem own_tail {w : World} {base g n cap : Nat} {L : List ByteArray} {x : ByteArray} (h : w.ownsRow base 9 1 (.slice (some ⟨g, 0, none⟩) (n + 1) cap) (n + 1) (tv (x :: L))) : OwnAt w base (.slice (some ⟨g, 1, none⟩) n (cap - 1)) n L := by
  have hw := own_wcells h
  have hl := h.1
  rw [tv_len, List.length_cons] at hl
  rcases h.2 with ⟨e, _⟩ | ⟨g', cap', cur, e, hb, hg, hn, _, hs, _⟩
  · cases e
  · cases e
    refine ⟨by omega, .inr ⟨g, 1, cap - 1, rfl, hb, by omega, fun j hj => own_cell1 hg _ (by omega), hw.1, fun j hj => ?_⟩⟩
    have := hw.2 (1 + j) (.string (L.getD j ⟨#[]⟩)) (by rw [Nat.add_comm]; exact tv_get L j hj)
    exact this
theorem own_at {w : World} {base n : Nat} {v : Value} {L : List ByteArray} (h : w.ownsRow base 9 1 v n (tv L)) : OwnAt w base v n L := by
  have hl := h.1
  rw [tv_len] at hl
  rcases h.2 with ⟨e, h0⟩ | ⟨g, cap, cur, rfl, hb, hg, hn, _, hs, _⟩
  · exact ⟨by omega, .inl ⟨e, h0⟩⟩
  · have hw := own_wcells h
    refine ⟨by omega, .inr ⟨g, 0, cap, rfl, hb, hn, fun j hj => ?_, hw.1, fun j hj => ?_⟩⟩
    · rw [Nat.zero_add]; exact own_cell1 hg _ (by omega)
    · rw [Nat.zero_add]; exact hw.2 j _ (tv_get L j hj)
theorem OwnAt.oans {w : World} {base n : Nat} {v : Value} {L : List ByteArray} (h : OwnAt w base v n L) : OAns w v L base w.heap.size := by
  obtain ⟨hl, h | ⟨g, off, cap, e, hb, hn, _, hc⟩⟩ := h
  · obtain ⟨e, h0⟩ := h
    rw [h0] at hl
    rw [List.eq_nil_of_length_eq_zero hl]
    exact ⟨none, 0, e, Nat.le_refl _, .inl rfl⟩
  · exact ⟨_, cap, by rw [hl]; exact e, by omega, .inr ⟨g, off, rfl, hb, hc.1, hc⟩⟩
theorem OwnAt.lt {w : World} {base n : Nat} {v : Value} {L : List ByteArray} (h : OwnAt w base v n L) : ∀ k, v.ownBlock = some k → base ≤ k ∧ k < w.heap.size := by
  intro k hk
  obtain ⟨_, ⟨rfl, _⟩ | ⟨g, off, cap, rfl, hb, _, _, hc⟩⟩ := h
  · cases hk
  · cases hk; exact ⟨hb, hc.1⟩
theorem OwnAt.kept {w w' : World} {base n : Nat} {v : Value} {L : List ByteArray} (h : OwnAt w base v n L) (hs : w.heap.size ≤ w'.heap.size) (hb : ∀ k, v.ownBlock = some k → w'.heap[k]? = w.heap[k]?) : OwnAt w' base v n L := by
  obtain ⟨hl, h0 | ⟨g, off, cap, rfl, hbs, hn, hf, hc⟩⟩ := h
  · exact ⟨hl, .inl h0⟩
  · have e := hb g rfl
    exact ⟨hl, .inr ⟨g, off, cap, rfl, hbs, hn, fun j hj => by rw [World.cell?_of_block (a := ⟨g, off + j, none⟩) e, World.frozen?_of_block (a := ⟨g, off + j, none⟩) e]; exact hf j hj, hc.block hs e⟩⟩
theorem OwnAt.below {w w' : World} {base n : Nat} {v : Value} {L : List ByteArray} (h : OwnAt w base v n L) (hb : Below w.heap.size w w') : OwnAt w' base v n L := h.kept hb.size (fun k hk => hb.block k (h.lt k hk).2)
theorem OwnAt.alloc {w : World} {base n : Nat} {v : Value} {L : List ByteArray} (h : OwnAt w base v n L) (o : Obj) : OwnAt (w.alloc o) base v n L := h.below ((Below.refl _ _).alloc (Nat.le_refl _) _)
theorem isSome_set {w : World} {a p : Addr} {x : Value} (h : (w.cell? p).isSome = true) : ((w.setCell a x).cell? p).isSome = true := by
  obtain ⟨u, hu⟩ := Option.isSome_iff_exists.1 h
  by_cases e : p = a
  · subst e
    rw [World.cell?_setCell_same _ _ _ hu]; rfl
  · rw [World.cell?_setCell_other _ _ _ _ (Ne.symm e)]; exact h
theorem OCells.more {w : World} {g off : Nat} {L : List ByteArray} {x : ByteArray} (h : OCells w g off L) (hc : (w.cell? ⟨g, off + L.length, none⟩).isSome = true) (hf : w.frozen? ⟨g, off + L.length, none⟩ = false) : OCells (w.setCell ⟨g, off + L.length, none⟩ (.string x)) g off (L ++ [x]) := by
  refine ⟨by have := h.1; simpa [World.setCell] using this, fun j hj => ?_⟩
  rw [List.length_append, List.length_singleton] at hj
  obtain ⟨u, hu⟩ := Option.isSome_iff_exists.1 hc
  by_cases e : j = L.length
  · subst e
    refine ⟨?_, (World.frozen?_setCell _ _ _ _).trans hf⟩
    rw [World.cell?_setCell_same _ _ _ hu]
    simp [List.getD]
  · have hj' : j < L.length := by omega
    refine ⟨?_, (World.frozen?_setCell _ _ _ _).trans (h.2 j hj').2⟩
    rw [World.cell?_setCell_other _ _ _ _ (fun q => e (by have := congrArg Addr.off q; simp at this; omega)), (h.2 j hj').1]
    simp [List.getD, List.getElem?_append_left hj']
theorem grow_none {w w' : World} {r : Option Nat} (h : w.grownBy w' none) : w.grownBy w' r := ⟨h.os, h.tape, h.output, h.size, fun k hk _ => h.block k hk (by simp)⟩
theorem own_mono {w : World} {B B' n t : Nat} {v : Value} {L : List Value} (h : w.ownsRow B t 1 v n L) (hb : B' ≤ B) : w.ownsRow B' t 1 v n L :=
  ⟨h.1, h.2.imp id fun ⟨g, cap, cur, h1, h2, h3⟩ => ⟨g, cap, cur, h1, Nat.le_trans hb h2, h3⟩⟩
theorem run_append_off {w : World} {base n : Nat} {v : Value} {L : List ByteArray} (hown : OwnAt w base v n L) (ty : TypeId) (i : TypeInfo) (hi : Try.prog.info? 9 = some i) (hz : i.zero = some (.string ⟨#[]⟩)) (hsize : i.size = 1) (hby : i.bytes = 16)
    (ad : Addr) (c : Nat) (x : ByteArray) (hx : w.cell? (ad.add 0) = some (.string x)) (h63 : n + 1 ≤ 1000000) (hbase : base ≤ w.heap.size) :
    ∃ v' w', (Builtin.append_ #[45, 45] ty #[v, .slice (some ad) 1 c]).run Try.prog w = .ok v' w' ∧ OwnAt w' base v' (n + 1) (L ++ [x]) ∧ w.grownBy w' v.ownBlock := by
  have hnews : ∀ (j : Nat) u, [Value.string x][j]? = some u → w.cell? (ad.add j) = some u := fun j u hu => by
    cases j with
    | zero => cases hu; exact hx
    | succ j => cases hu
  have hone : ∀ u ∈ [Value.string x], u.oneCell' = true := fun u hu => by simp at hu; subst hu; rfl
  obtain ⟨hl, ⟨rfl, h0⟩ | ⟨g, off, cap, rfl, hb, hn, hf, hc⟩⟩ := hown
  · subst h0
    obtain ⟨v', w', hr, h2, h3, _, _⟩ := run_append_own_at (P := Try.prog) w base 45 ty 9 i (.string ⟨#[]⟩) 1 16 Try.underlying45 hi hz hsize hby rfl (by decide) (.slice none 0 0) 0 [] ⟨rfl, .inl ⟨rfl, rfl⟩⟩ ad 1 c [.string x] rfl hnews hone (by unfold maxLen; omega) (by omega) hbase
    refine ⟨v', w', hr, ?_, h3⟩
    rw [List.eq_nil_of_length_eq_zero hl]
    exact own_at h2
  · by_cases hr : n + 1 ≤ cap
    · have hcc := hf n (by omega)
      refine ⟨_, _, run_append_room_cells w (P := Try.prog) 45 ty 9 i Try.underlying45 hi g off n cap ad 1 c [.string x] (by rw [hsize]; rfl) hnews hone hr ?_ ?_, ?_, ?_⟩
      · intro j hj
        have : j = 0 := by simpa using hj
        subst this
        rw [hsize, Nat.mul_one, Nat.add_zero]
        exact hcc.1
      · intro j hj
        have : j = 0 := by simpa using hj
        subst this
        rw [hsize, Nat.mul_one, Nat.add_zero]
        exact hcc.2
      · rw [hsize, Nat.mul_one]
        refine ⟨by simp [hl], .inr ⟨g, off, cap, rfl, hb, hr, fun j hj => ⟨?_, ?_⟩, ?_⟩⟩
        · exact isSome_set (hf j hj).1
        · exact (World.frozen?_setCell _ _ _ _).trans (hf j hj).2
        · have := hc.more (x := x) (by rw [hl]; exact hcc.1) (by rw [hl]; exact hcc.2)
          rw [hl] at this
          exact this
      · exact grownBy_setCell _ _ _ _
    · have holds : ∀ (j : Nat) u, (tv L)[j]? = some u → w.cell? ((⟨g, off, none⟩ : Addr).add j) = some u := fun j u hu => by
        have hj : j < L.length := by
          have := (List.getElem?_eq_some_iff.1 hu).1
          rwa [tv_len] at this
        rw [tv_get L j hj] at hu
        cases hu
        rw [Addr.add_lit]
        exact (hc.2 j hj).1
      obtain ⟨v', w', hrun, r1, r2⟩ := run_append_arg_grows w (P := Try.prog) 45 ty 9 i (.string ⟨#[]⟩) 1 16 Try.underlying45 hi hz hsize hby rfl (by decide) ⟨g, off, none⟩ n cap (tv L) (by rw [tv_len, hl, Nat.mul_one]) holds ad 1 c [.string x] rfl hnews (by omega) (by unfold maxLen; omega) (by omega)
      rw [tv_snoc] at r1
      exact ⟨v', w', hrun, own_at (own_mono r1 hbase), grow_none r2⟩
theorem wpList_append_off {w : World} {ops : Array Oper} {rest : List Oper} {o : Oper} {a : Act} {Q : Exit → Act → World → Prop} (hgd : Region.wanted o (yielded ops a.tmps) = true) (s x : Operand)
    (ho : o.op = .call { callee := .builtin .append, args := #[s, x], argTypes := #[45, 45] })
    (base : Nat) (i : TypeInfo) (hi : Try.prog.info? 9 = some i) (hz : i.zero = some (.string ⟨#[]⟩)) (hsize : i.size = 1) (hby : i.bytes = 16)
    (v : Value) (n : Nat) (L : List ByteArray) (hs : a.eval s = v) (hown : OwnAt w base v n L)
    (ad : Addr) (c : Nat) (t : ByteArray) (hx : a.eval x = .slice (some ad) 1 c) (hc : w.cell? (ad.add 0) = some (.string t)) (h63 : n + 1 ≤ 1000000) (hbase : base ≤ w.heap.size)
    (h : ∀ v' w', OwnAt w' base v' (n + 1) (L ++ [t]) → w.grownBy w' v.ownBlock → wpList Try.prog ops Q rest (a.put o.dst v') w') :
    wpList Try.prog ops Q (o :: rest) a w := by
  obtain ⟨v', w', hr, h2, h3⟩ := run_append_off hown o.type i hi hz hsize hby ad c t hc h63 hbase
  show if Region.wanted o (yielded ops a.tmps) = true then _ else _
  rw [if_pos hgd]
  left
  unfold Oper.wp execOp
  simp only [ho, resolve, invoke, builtin, Sem.run_bind, Sem.run_pure, Result.andThen_ok, List.map_toArray, List.map_cons, List.map_nil, hs, hx, hr]
  exact h v' w' h2 h3
/-- What an answer of texts and a flag is, in a row that may be made longer, wherever in its block. -/
def QPost (R : List ByteArray × Bool) (w : World) (e : Ending) (w' : World) : Prop := ∃ v, e = .returned (.tuple #[v, .bool R.2]) ∧ OwnAt w' w.heap.size v R.1.length R.1 ∧ Below w.heap.size w w'
theorem QPost.none {R : List ByteArray × Bool} {b : Bool} {w w' : World} (h : R = ([], b)) (hb : Below w.heap.size w w') : QPost R w (.returned (.tuple #[.slice none 0 0, .bool b])) w' := by
  unfold QPost
  rw [h]
  exact ⟨_, rfl, OwnAt.nil _ _, hb⟩
end Go.Proofs.Ytendbipfmgnjkaa
