/- The walk of the model's Unframe. -/
import Derived.Test.YthhpdkeajogkoaaDoorFrA
import Derived.Test.YthhpdkeajogkoaaDoorStrsB
namespace Go.Proofs.YthhpdkeajogkoaaDoor
open Go.RowKit
attribute [local go_sem ↓] Go.wp_at_zero Go.wp_at_succ

/-- Texts as the cells of a row. -/
def tv (l : List ByteArray) : List Value := l.map Value.string
theorem tv_snoc (l : List ByteArray) (x : ByteArray) : tv l ++ [.string x] = tv (l ++ [x]) := by simp [tv]
theorem tv_len (l : List ByteArray) : (tv l).length = l.length := by simp [tv]
theorem Tryd.info9 : (Tryd.prog.info? 9).map (fun i => (i.zero, i.size, i.bytes)) = some (some (.string ⟨#[]⟩), 1, 16) := by kernel_rfl

/-- A row of texts that a call has made: nothing of it is older than B. -/
def RowAt (w : World) (B : Nat) (a : Option Addr) (xs : List ByteArray) (cap : Nat) : Prop := xs.length ≤ cap ∧ (xs = [] ∨ ∃ g, a = some ⟨g, 0, none⟩ ∧ B ≤ g ∧ WRow w g xs)
theorem own_rowAt {w : World} {B : Nat} {v : Value} {xs : List ByteArray} (h : w.ownsRow B 9 1 v xs.length (tv xs)) : ∃ a cap, v = .slice a xs.length cap ∧ RowAt w B a xs cap := by
  have hc : ∀ g, v.ownBlock = some g → ∀ j u, (tv xs)[j]? = some u → w.cell? ((⟨g, 0, none⟩ : Addr).add j) = some u := fun g hg => h.cells hg
  have hlt := h.lt
  obtain ⟨_, ⟨rfl, h0⟩ | ⟨g, cap, cur, rfl, hB, hcur, hn, _, hsz, _⟩⟩ := h
  · have : xs = [] := List.eq_nil_of_length_eq_zero h0
    subst this
    exact ⟨none, 0, rfl, by simp, .inl rfl⟩
  · refine ⟨_, cap, rfl, hn, .inr ⟨g, rfl, hB, (hlt g rfl).2, fun j hj => ⟨?_, ?_⟩⟩⟩
    · have := hc g rfl j _ (show (tv xs)[j]? = some _ by simp [tv, hj]; rfl)
      have e : (⟨g, 0, none⟩ : Addr).add j = ⟨g, j, none⟩ := by
        cases j <;> simp [Addr.add]
      rw [e] at this
      simpa [List.getD, hj] using this
    · unfold World.frozen?
      rw [hcur]; simp

namespace W
/-- The bytes of a file from a place on are a frame just where its sum is right. -/
theorem frame_bytes {s : ByteArray} {a n p : Nat} (h : readVar s a = some (n, p)) (hn : p + 4 + n ≤ s.size) :
    (frameB (s.extract (p + 4) (p + 4 + n)) = s.extract a (p + 4 + n)) ↔ fourB (sumOf (s.extract (p + 4) (p + 4 + n))) = s.extract p (p + 4) := by
  obtain ⟨hap, _, hv⟩ := readVar_vt h
  have hz : (s.extract (p + 4) (p + 4 + n)).size = n := by simp; omega
  have e : s.extract a (p + 4 + n) = (s.extract a p ++ s.extract p (p + 4)) ++ s.extract (p + 4) (p + 4 + n) := by
    apply Go.WideShapes.bytes_inj
    rw [ByteArray.toList_data_append, ByteArray.toList_data_append, extract_list, extract_list, extract_list, extract_list]
    have e1 : p + 4 + n - a = (p - a) + (4 + n) := by omega
    have e2 : p + 4 - p = 4 := by omega
    have e3 : p + 4 + n - (p + 4) = n := by omega
    rw [e1, e2, e3, List.take_add, List.drop_drop, List.take_add, List.drop_drop, show a + (p - a) = p by omega, List.append_assoc]
  rw [e, hv]
  unfold frameB
  rw [hz]
  generalize s.extract (p + 4) (p + 4 + n) = r
  have h4 : (s.extract p (p + 4)).size = 4 := by simp; omega
  have h5 := fourB_size (sumOf r)
  generalize s.extract p (p + 4) = z at h4
  generalize fourB (sumOf r) = y at h5
  constructor
  · intro h
    have h1 := congrArg (fun b : ByteArray => b.data.toList) h
    simp only [ByteArray.toList_data_append, List.append_assoc] at h1
    have h2 := List.append_cancel_left h1
    have h3 := List.append_cancel_right h2
    exact Go.WideShapes.bytes_inj h3
  · rintro rfl; rfl
end W

/-- What Unframe answers, and where it lies. -/
def UnfPost (s : ByteArray) (w : World) (e : Ending) (w' : World) : Prop :=
  ∃ a cap, e = .returned (.tuple #[.slice a (W.recsOf (W.framesOf s)).length cap, .int .i64 (W.endOf (W.framesOf s) : Nat)]) ∧ RowAt w' w.heap.size a (W.recsOf (W.framesOf s)) cap ∧ Below w.heap.size w w'
theorem UnfPost.mk {s : ByteArray} {w w' : World} {v : Value} {l : List (ByteArray × Nat)} {k : Nat} (h : W.framesOf s = l) (hk : k = W.endOf l) (hown : w'.ownsRow w.heap.size 9 1 v (W.recsOf l).length (tv (W.recsOf l))) (hb : Below w.heap.size w w') :
    UnfPost s w (.returned (.tuple #[v, .int .i64 (k : Int)])) w' := by
  obtain ⟨a, cap, rfl, hr⟩ := own_rowAt hown
  exact ⟨a, cap, by rw [h, hk], by rw [h]; exact hr, hb⟩
/-- Where the model's loop stands. -/
structure UnfAt (s : ByteArray) (w wr : World) (v : Value) (a : Nat) (pre : List (ByteArray × Nat)) : Prop where
  at_ : a = W.endOf pre
  le : a ≤ s.size
  all : W.framesOf s = pre ++ W.framesFrom s a
  own : wr.ownsRow w.heap.size 9 1 v (W.recsOf pre).length (tv (W.recsOf pre))
  bel : Below w.heap.size w wr
theorem UnfAt.fin {s : ByteArray} {w wr w' : World} {v : Value} {a : Nat} {pre : List (ByteArray × Nat)} (h : UnfAt s w wr v a pre) (hn : W.framesFrom s a = []) (hb : Below wr.heap.size wr w') : UnfPost s w (.returned (.tuple #[v, .int .i64 (a : Int)])) w' := by
  refine UnfPost.mk (l := pre) (by rw [h.all, hn, List.append_nil]) h.at_ ?_ (h.bel.trans (hb.mono h.bel.size))
  exact h.own.kept (row := none) ⟨hb.os, hb.tape, hb.output, hb.size, fun k hk _ => hb.block k hk⟩ (Classical.em _)
theorem UnfAt.few {s : ByteArray} {w wr : World} {v : Value} {a : Nat} {pre : List (ByteArray × Nat)} (h : UnfAt s w wr v a pre) : (W.recsOf pre).length ≤ 20000 := by
  have := congrArg List.length h.all
  have h2 := W.framesOf_len s
  rw [List.length_append] at this
  rw [W.recsOf_len]
  omega
theorem UnfAt.below {s : ByteArray} {w wr w' : World} {v : Value} {a : Nat} {pre : List (ByteArray × Nat)} (h : UnfAt s w wr v a pre) (hb : Below wr.heap.size wr w') : UnfAt s w w' v a pre :=
  ⟨h.at_, h.le, h.all, h.own.kept (row := none) ⟨hb.os, hb.tape, hb.output, hb.size, fun k hk _ => hb.block k hk⟩ (Classical.em _), h.bel.trans (hb.mono h.bel.size)⟩
theorem UnfAt.more {s : ByteArray} {w wr w1 : World} {v v' : Value} {a b : Nat} {r : ByteArray} {pre : List (ByteArray × Nat)} {o : Obj} (h : UnfAt s w wr v a pre) (hf : W.frameAt s a = some (r, b))
    (hown : w1.ownsRow w.heap.size 9 1 v' ((W.recsOf pre).length + 1) (tv (W.recsOf pre) ++ [.string r])) (hg : (wr.alloc o).grownBy w1 v.ownBlock) : UnfAt s w w1 v' b (pre ++ [(r, b)]) := by
  have hb := W.frameAt_bounds hf
  refine ⟨(W.endOf_snoc pre (r, b)).symm, hb.2.1, by rw [h.all, W.framesFrom_some hf]; simp, ?_, (h.bel.alloc h.bel.size o).grown hg (by have := h.bel.size; simp; omega) (fun j hj => (h.own.lt j hj).1)⟩
  rw [W.recsOf_snoc, ← tv_snoc]
  simpa using hown
theorem frameAt_n {s : ByteArray} {a n p : Nat} (h : W.readVar s a = some (n, p)) (hn : n < 1 ∨ 9000 < n ∨ s.size < p + 4 + n) : W.frameAt s a = none := by
  unfold W.frameAt
  rw [h]
  simp only
  rw [if_neg (fun e => by omega)]
theorem frameAt_ne {s : ByteArray} {a n p : Nat} (h : W.readVar s a = some (n, p)) (hn : p + 4 + n ≤ s.size) (hf : frameB (s.extract (p + 4) (p + 4 + n)) ≠ s.extract a (p + 4 + n)) : W.frameAt s a = none := by
  unfold W.frameAt
  rw [h]
  simp only
  rw [if_neg (fun e => hf ((W.frame_bytes h hn).2 e.2.2.2))]
theorem frameAt_eq {s : ByteArray} {a n p : Nat} (h : W.readVar s a = some (n, p)) (h1 : 1 ≤ n) (h2 : n ≤ 9000) (hn : p + 4 + n ≤ s.size) (hf : frameB (s.extract (p + 4) (p + 4 + n)) = s.extract a (p + 4 + n)) : W.frameAt s a = some (s.extract (p + 4) (p + 4 + n), p + 4 + n) := by
  unfold W.frameAt
  rw [h]
  simp only
  rw [if_pos ⟨h1, h2, hn, (W.frame_bytes h hn).1 hf⟩]
theorem frV_yes {s : ByteArray} (h : 1 ≤ s.size ∧ s.size ≤ 9000) : frV s = .tuple #[.string (frameB s), .bool true] := if_pos h
theorem frV_no {s : ByteArray} (h : ¬ (1 ≤ s.size ∧ s.size ≤ 9000)) : frV s = .tuple #[.string ⟨#[]⟩, .bool false] := if_neg h
theorem cut_all (s : ByteArray) (a p n : Nat) (h : p + 4 + n ≤ s.size) (ha : a ≤ p) (w : World) : (Instr.slice 9 (.string s) (some (.int .i64 (a : Int))) (some (.int .i64 ((p : Int) + 4 + (n : Int)))) none).run Tryd.prog w = .ok (.string (s.extract a (p + 4 + n))) w := by
  have := slice_str s a (p + 4 + n) (by omega) h w
  rw [show ((p + 4 + n : Nat) : Int) = (p : Int) + 4 + (n : Int) by omega] at this
  exact this
set_option maxHeartbeats 1000000 in
theorem specUnframe (s : ByteArray) (w : World) (hs : s.size ≤ 1048576) : Calls Tryd.prog 13 #[.string s] w fun e w' => UnfPost s w e w' := by
  obtain ⟨i0, hi, hz0, hz1, hz2⟩ := info_parts Tryd.info9
  by_cases hl : 20000 < s.size
  · have hl' : (20000 : Int) < (s.size : Int) := by omega
    go_enter Tryd.func13, Tryd.ntmps13
    go_wp2_with fail
    go_ret2
    exact UnfPost.mk (k := 0) (l := []) (by unfold W.framesOf; rw [if_pos hl]) rfl (World.ownsRow_made w #[] 0 (Nat.le_refl _) (by decide) rfl) ((Below.refl _ _).alloc (Nat.le_refl _) _)
  · have hl' : ¬ (20000 : Int) < (s.size : Int) := by omega
    have HS : Hid _ := hs
    clear hs
    go_enter Tryd.func13, Tryd.ntmps13
    go_wp2_with fail
    go_loopw [4, 5] (fun v i wr => ∃ (a : Nat) (pre : List (ByteArray × Nat)), i = .int .i64 a ∧ UnfAt s w wr v a pre) (fun _ i _ => s.size - (intOf i).toNat)
    case atStart => exact ⟨0, [], rfl, rfl, Nat.zero_le _, by unfold W.framesOf; rw [if_neg hl]; rfl, World.ownsRow_made w #[] 0 (Nat.le_refl _) (by decide) rfl, (Below.refl _ _).alloc (Nat.le_refl _) _⟩
    case round =>
      obtain ⟨a, pre, rfl, hat⟩ := hrel
      have hle := hat.le
      have hB := hat.bel.size
      by_cases hlt : a < s.size
      · have a1 : (a : Int) < (s.size : Int) := by omega
        cases hr : W.readVar s a with
        | none =>
          have HR : Hid _ := hr
          have HF : Hid (W.framesFrom s a = []) := W.framesFrom_none (by unfold W.frameAt; rw [hr])
          clear hr
          go_wp2_with fail
          refine (specReadVar_yes s a _ HS.out hle).mono ?_
          rw [HR.out, rv_none]
          rintro e w1 ⟨rfl, hb1⟩
          have hfin := hat.fin HF.out hb1
          clear hat hb1
          go_wp2_with fail
          go_ret2
          exact hfin
        | some x =>
          obtain ⟨n, p⟩ := x
          have hbd := W.readVar_bounds hle hr
          obtain ⟨hbd1, hbd2⟩ := hbd
          have hap := (W.readVar_vt hr).1
          by_cases h3 : s.size < p + 4 + n
          · have h3' : (s.size : Int) - (p : Int) - 4 < (n : Int) := by omega
            have HR : Hid _ := hr
            have HF : Hid (W.framesFrom s a = []) := W.framesFrom_none (frameAt_n hr (by omega))
            clear hr
            go_wp2_with fail
            refine (specReadVar_yes s a _ HS.out hle).mono ?_
            rw [HR.out, rv_some]
            rintro e w1 ⟨rfl, hb1⟩
            have hfin := hat.fin HF.out hb1
            clear hat hb1
            go_wp2_with fail
            go_ret2
            exact hfin
          · have h3' : ¬ (s.size : Int) - (p : Int) - 4 < (n : Int) := by omega
            have c1 := cut_rec s p n (by omega)
            have c2 := cut_all s a p n (by omega) (by omega)
            have hrz : (s.extract (p + 4) (p + 4 + n)).size = n := by simp; omega
            by_cases h12 : 1 ≤ n ∧ n ≤ 9000
            · have e1 := frV_yes (s := s.extract (p + 4) (p + 4 + n)) (by omega)
              have hfm := specFrame (s.extract (p + 4) (p + 4 + n))
              rw [e1] at hfm
              by_cases hq : frameB (s.extract (p + 4) (p + 4 + n)) = s.extract a (p + 4 + n)
              · have HFA : Hid _ := frameAt_eq hr h12.1 h12.2 (by omega) hq
                have HR : Hid _ := hr
                clear hr
                generalize s.extract (p + 4) (p + 4 + n) = r at *
                generalize s.extract a (p + 4 + n) = z at *
                subst hq
                have HM : Hid _ := hfm
                clear hfm e1
                go_wp2_with fail
                refine (specReadVar_yes s a _ HS.out hle).mono ?_
                rw [HR.out, rv_some]
                rintro e w1 ⟨rfl, hb1⟩
                have hat1 := hat.below hb1
                clear hat hb1
                go_wp2_with fail
                refine (HM.out _).mono ?_
                rintro e w2 ⟨rfl, hb2⟩
                have hat2 := hat1.below hb2
                clear hat1 hb2
                have hown := hat2.own
                have hfew := hat2.few
                have hB2 := hat2.bel.size
                go_wp2_with (at_builtin; refine wpList_append_own _ rfl _ _ 27 rfl w.heap.size 9 i0 (.string ⟨#[]⟩) 1 16 Tryd.underlying27 hi hz0 hz1 hz2 rfl (by decide) _ _ _ rfl (hown.alloc _) ⟨w2.heap.size, 0, none⟩ 1 1 [.string _] rfl rfl (cell_one_new _ _ _) ?c2 ?c3 ?c4 ?c5 ?_)
                case c2 => first | rfl | (intro u hu; simp at hu; subst hu; rfl)
                case c3 => unfold maxLen; omega
                case c4 => omega
                case c5 => first | omega | (simp; omega)
                · intro v' w3 hown' hgrow _
                  have hat3 := hat2.more HFA.out hown' hgrow
                  have hle3 := hat3.le
                  clear hown' hgrow hown hat2
                  go_wp2_with fail
                  go_roundw
                  case rel => exact ⟨p + 4 + n, _, by go_num, hat3⟩
                  case measure => simp [intOf]; omega
              · have HF : Hid (W.framesFrom s a = []) := W.framesFrom_none (frameAt_ne hr (by omega) hq)
                have HR : Hid _ := hr
                clear hr
                generalize s.extract (p + 4) (p + 4 + n) = r at *
                generalize s.extract a (p + 4 + n) = z at *
                have hne := bytes_ne hq
                have HM : Hid _ := hfm
                clear hfm e1
                go_wp2_with fail
                refine (specReadVar_yes s a _ HS.out hle).mono ?_
                rw [HR.out, rv_some]
                rintro e w1 ⟨rfl, hb1⟩
                have hat1 := hat.below hb1
                clear hat hb1
                go_wp2_with fail
                refine (HM.out _).mono ?_
                rintro e w2 ⟨rfl, hb2⟩
                have hfin := hat1.fin HF.out hb2
                clear hat1 hb2
                go_wp2_with fail
                go_ret2
                exact hfin
            · have e1 := frV_no (s := s.extract (p + 4) (p + 4 + n)) (by omega)
              have hfm := specFrame (s.extract (p + 4) (p + 4 + n))
              rw [e1] at hfm
              have HF : Hid (W.framesFrom s a = []) := W.framesFrom_none (frameAt_n hr (by omega))
              have HR : Hid _ := hr
              clear hr
              generalize s.extract (p + 4) (p + 4 + n) = r at *
              have HM : Hid _ := hfm
              clear hfm e1
              go_wp2_with fail
              refine (specReadVar_yes s a _ HS.out hle).mono ?_
              rw [HR.out, rv_some]
              rintro e w1 ⟨rfl, hb1⟩
              have hat1 := hat.below hb1
              clear hat hb1
              go_wp2_with fail
              refine (HM.out _).mono ?_
              rintro e w2 ⟨rfl, hb2⟩
              have hfin := hat1.fin HF.out hb2
              clear hat1 hb2
              go_wp2_with fail
              go_ret2
              exact hfin
      · have a1 : ¬ (a : Int) < (s.size : Int) := by omega
        have hfin := hat.fin (W.framesFrom_over (by omega)) (Below.refl _ _)
        clear hat
        go_wp2_with fail
        go_ret2
        exact hfin
end Go.Proofs.YthhpdkeajogkoaaDoor
