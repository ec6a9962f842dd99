/- Texts of ours, laid one behind the other: SpnB, TreW, TreX, PathB, PathC, TreN, TreJ, TreK. -/
import Derived.Test.YtfceohoegeebjaaPt3
import Derived.Deep.AppendLies
/- SpnB: Rows of numbers as values; the walk of the model's Spans. -/
namespace Go.Proofs.Ytfceohoegeebjaa
open Go.RowKit
attribute [local go_sem ↓] Go.wp_at_zero Go.wp_at_succ

/-- A value that is these numbers, in memory of its own. -/
def IAns (w : World) (v : Value) (xs : List Int) (lo hi : Nat) : Prop := ∃ (a : Option Addr) (cap : Nat), v = .slice a xs.length cap ∧ xs.length ≤ cap ∧ (xs = [] ∨ ∃ g, a = some ⟨g, 0, none⟩ ∧ lo ≤ g ∧ g < hi ∧ WCells w g (ics xs))
theorem IAns.empty (w : World) (a : Option Addr) (cap lo hi : Nat) : IAns w (.slice a 0 cap) [] lo hi := ⟨a, cap, rfl, Nat.zero_le _, .inl rfl⟩
theorem IAns.crow {w : World} {v : Value} {xs : List Int} {lo hi : Nat} (h : IAns w v xs lo hi) : ∃ a cap, v = .slice a xs.length cap ∧ CRow w a (ics xs) := by
  obtain ⟨a, cap, e, _, q⟩ := h
  refine ⟨a, cap, e, ?_⟩
  rcases q with rfl | ⟨g, rfl, _, _, q⟩
  · intro h; simp [ics] at h
  · exact q.crow
theorem IAns.turned {w w' : World} {v : Value} {xs : List Int} {lo hi lo' hi' : Nat} (h : IAns w v xs lo hi) (t : Turned w w' lo' hi') (hd : hi ≤ lo' ∨ hi' ≤ lo) : IAns w' v xs lo hi := by
  obtain ⟨a, cap, e, hc, q⟩ := h
  refine ⟨a, cap, e, hc, ?_⟩
  rcases q with rfl | ⟨g, rfl, h1, h2, h3⟩
  · exact .inl rfl
  · exact .inr ⟨g, rfl, h1, h2, h3.turned t (by omega)⟩
theorem IAns.below {w w' : World} {v : Value} {xs : List Int} {lo hi : Nat} (h : IAns w v xs lo hi) (hb : Below w.heap.size w w') : IAns w' v xs lo hi := by
  obtain ⟨a, cap, e, hc, q⟩ := h
  refine ⟨a, cap, e, hc, ?_⟩
  rcases q with rfl | ⟨g, rfl, h1, h2, h3⟩
  · exact .inl rfl
  · exact .inr ⟨g, rfl, h1, h2, h3.below hb h3.1⟩
def IPost (xs : List Int) (w : World) (e : Ending) (w' : World) : Prop := ∃ v, e = .returned v ∧ IAns w' v xs w.heap.size w'.heap.size ∧ Below w.heap.size w w'
theorem own_ians {w w' : World} {v : Value} {xs : List Int} {n : Nat} (hn : xs.length = n) (h : w'.ownsRow w.heap.size 3 1 v n (ics xs)) : IAns w' v xs w.heap.size w'.heap.size := by
  have hlt := h.lt
  have hown := h
  subst hn
  obtain ⟨_, ⟨rfl, h0⟩ | ⟨g, cap, cur, rfl, hB, hcur, hn, _⟩⟩ := h
  · have : xs = [] := List.eq_nil_of_length_eq_zero h0
    subst this
    exact IAns.empty _ _ _ _ _
  · exact ⟨_, cap, rfl, hn, .inr ⟨g, rfl, hB, (hlt g rfl).2, own_wcells hown⟩⟩
/-- The lengths of the groups of so many bytes. -/
def spanL (S n : Nat) : List Int := List.replicate ((n - 1) / S) (S : Int) ++ [((n - (n - 1) / S * S : Nat) : Int)]
def spansX (s n : Int) : List Int := if schOk s = true ∧ 1 ≤ n ∧ n ≤ 1000 then spanL (groupN s) n.toNat else []
theorem spansX_no {s n : Int} (h : ¬ (schOk s = true ∧ 1 ≤ n ∧ n ≤ 1000)) : spansX s n = [] := if_neg h
theorem group_pos {s : Int} (h : schOk s = true) : 16 ≤ groupN s := by have := (sch_bounds h).1; unfold groupN; omega
theorem group_zero {s : Int} (h : schOk s = false) : groupN s = 0 := by unfold groupN; rw [(sch_zero h).1]
theorem span_last {S n j : Nat} (hS : 0 < S) (h1 : j * S < n) (h2 : n ≤ j * S + S) : (n - 1) / S = j := by
  have e : n - 1 = (n - 1 - j * S) + j * S := by omega
  rw [e, Nat.add_mul_div_right _ _ hS, Nat.div_eq_of_lt (by omega), Nat.zero_add]
set_option maxRecDepth 100000 in
set_option maxHeartbeats 2000000 in
theorem specSpans (s n : Int) (w : World) : Calls Try.prog 143 #[.int .i64 s, .int .i64 n] w fun e w' => IPost (spansX s n) w e w' := by
  obtain ⟨i1, hi1, hy0, hy1, hy2⟩ := info_parts infoIntG
  have HG := Shut.mk (fun W => specGroupSize s W)
  obtain ⟨bn, hbn⟩ : ∃ r, (decide ((1 : Int) ≤ n) && decide (n ≤ 1000)) = r := ⟨_, rfl⟩
  have hin := in_bool hbn
  have HIN := Shut.mk (fun W => isIn n 1 1000 W bn hbn)
  have hg32 := groupN_bounds s
  have hal : Below w.heap.size w (w.alloc (.cells #[] 3)) := (Below.refl _ _).alloc (Nat.le_refl _) _
  have HAL := Shut.mk hal
  have HO : Shut ((w.alloc (.cells #[] 3)).ownsRow w.heap.size 3 1 (.slice (some ⟨w.heap.size, 0, none⟩) 0 0) 0 []) := ⟨World.ownsRow_made w #[] 0 (Nat.le_refl _) (by decide) rfl⟩
  clear hal hbn
  cases h : schOk s with
  | false =>
    rw [spansX_no (fun q => by rw [h] at q; cases q.1)]
    rw [group_zero h] at HG
    clear h hin hg32
    go_enter Try.func143, Try.ntmps143
    go_wp2_with fail
    refine (HG.out _).mono ?_
    rintro e w1 ⟨rfl, rfl⟩
    go_wp2_with fail
    go_ret
    exact ⟨_, rfl, IAns.empty _ _ _ _ _, HAL.out⟩
  | true =>
    have h16 := group_pos h
    cases bn with
    | false =>
      rw [spansX_no (fun q => by have := hin.2 q.2; cases this)]
      clear h hin
      generalize groupN s = S at *
      have hS0 : ((S : Int) == 0) = false := by rw [beq_eq_false_iff_ne]; omega
      go_enter Try.func143, Try.ntmps143
      go_wp2_with fail
      refine (HG.out _).mono ?_
      rintro e w1 ⟨rfl, rfl⟩
      go_wp2_with fail
      refine (HIN.out _).mono ?_
      rintro e w2 ⟨rfl, rfl⟩
      go_wp2_with fail
      go_ret
      exact ⟨_, rfl, IAns.empty _ _ _ _ _, HAL.out⟩
    | true =>
      obtain ⟨n1, n2⟩ := hin.1 rfl
      obtain ⟨N, rfl⟩ := Int.eq_ofNat_of_zero_le (show 0 ≤ n by omega)
      have e0 : spansX s (N : Int) = spanL (groupN s) N := by unfold spansX; rw [if_pos ⟨h, n1, n2⟩]; rfl
      rw [e0]
      clear h hin e0
      generalize groupN s = S at *
      have hS0 : ((S : Int) == 0) = false := by rw [beq_eq_false_iff_ne]; omega
      go_enter Try.func143, Try.ntmps143
      go_wp2_with fail
      refine (HG.out _).mono ?_
      rintro e w1 ⟨rfl, hw1⟩
      obtain rfl : w.alloc (.cells #[] 3) = w1 := hw1.symm
      clear hw1
      go_wp2_with fail
      refine (HIN.out _).mono ?_
      rintro e w2 ⟨rfl, hw2⟩
      obtain rfl : w.alloc (.cells #[] 3) = w2 := hw2.symm
      clear hw2
      go_wp2_with fail
      go_loopw [1, 5] (fun nn v wr => ∃ (j r : Nat) (vv : Value), vv = v ∧ nn = .int .i64 (r : Nat) ∧ 1 ≤ r ∧ r ≤ 1000 ∧ Shut (j * S + r = N) ∧ j ≤ 1000 ∧ Shut (wr.ownsRow w.heap.size 3 1 vv j (ics (List.replicate j (S : Int)))) ∧ Shut (Below w.heap.size w wr)) (fun nn _ _ => (intOf nn).toNat)
      case atStart => exact ⟨0, N, _, rfl, rfl, by omega, by omega, ⟨by omega⟩, by omega, HO, HAL⟩
      case round =>
        clear HO HAL
        obtain ⟨j, r, v, rfl, rfl, hr1, hr2, hjr, hj, hown, hb⟩ := hrel
        obtain ⟨wo, rfl⟩ : ∃ wo, wo = wr := ⟨_, rfl⟩
        have hso := hb.out.size
        have hown3 := hown.out
        by_cases hlt : S < r
        · have hlt' : (S : Int) < (r : Int) := by omega
          have hj2 : j + 1 ≤ 1000 := by
            have h1 := hjr.out
            have h2 : j ≤ j * S := Nat.le_mul_of_pos_right j (by omega)
            omega
          go_wp2_with (at_builtin; refine wpList_append_own _ rfl _ _ 32 rfl w.heap.size 3 i1 (.int .i64 0) 1 8 Try.underlying32 hi1 hy0 hy1 hy2 rfl (by decide) _ _ _ rfl (hown3.alloc _) ⟨wo.heap.size, 0, none⟩ 1 1 [.int .i64 (S : Int)] rfl rfl (cell_one_new _ _ _) ?c2 ?c3 ?c4 ?c5 ?_)
          case c2 => first | rfl | (intro u hu; simp at hu; subst hu; rfl)
          case c3 => unfold maxLen; omega
          case c4 => omega
          case c5 => first | omega | (simp; omega)
          intro v' w4 hown' hgrow _
          have Q1 : Shut (w4.ownsRow w.heap.size 3 1 v' (j + 1) (ics (List.replicate (j + 1) (S : Int)))) := ⟨by
            have e : ics (List.replicate (j + 1) (S : Int)) = ics (List.replicate j (S : Int)) ++ [.int .i64 (S : Int)] := by rw [List.replicate_succ']; simp [ics]
            rw [e]; exact hown'⟩
          have Q2 := Shut.mk ((hb.out.alloc hso (.cells #[.int .i64 (S : Int)] 3)).grown hgrow (by simp; omega) (fun j hj => (hown3.lt j hj).1))
          have Q3 : Shut ((j + 1) * S + (r - S) = N) := ⟨by rw [Nat.add_mul]; have := hjr.out; omega⟩
          have hsub : (r : Int) - (S : Int) = ((r - S : Nat) : Int) := by omega
          clear hown' hgrow hown3 hb hown hjr
          go_wp2_with fail
          exact ⟨⟨j + 1, r - S, v', rfl, by rw [← hsub], by omega, by omega, Q3, hj2, Q1, Q2⟩, by simp [intOf]; omega⟩
        · have hlt' : ¬ (S : Int) < (r : Int) := by omega
          have hle : (r : Int) ≤ (S : Int) := by omega
          have HSP : Shut (spanL S N = List.replicate j (S : Int) ++ [(r : Int)]) := ⟨by
            have h1 := hjr.out
            have e := span_last (S := S) (n := N) (j := j) (by omega) (by omega) (by omega)
            unfold spanL
            rw [e]
            congr 3
            omega⟩
          go_wp2_with (at_builtin; refine wpList_append_own _ rfl _ _ 32 rfl w.heap.size 3 i1 (.int .i64 0) 1 8 Try.underlying32 hi1 hy0 hy1 hy2 rfl (by decide) _ _ _ rfl (hown3.alloc _) ⟨wo.heap.size, 0, none⟩ 1 1 [.int .i64 (r : Int)] rfl rfl (cell_one_new _ _ _) ?c2 ?c3 ?c4 ?c5 ?_)
          case c2 => first | rfl | (intro u hu; simp at hu; subst hu; rfl)
          case c3 => unfold maxLen; omega
          case c4 => omega
          case c5 => first | omega | (simp; omega)
          intro v' w4 hown' hgrow _
          have Q1 : Shut (IAns w4 v' (spanL S N) w.heap.size w4.heap.size) := ⟨by
            rw [HSP.out]
            refine own_ians (n := j + 1) (by simp) ?_
            have e : ics (List.replicate j (S : Int) ++ [(r : Int)]) = ics (List.replicate j (S : Int)) ++ [.int .i64 (r : Int)] := by simp [ics]
            rw [e]; exact hown'⟩
          have Q2 := Shut.mk ((hb.out.alloc hso (.cells #[.int .i64 (r : Int)] 3)).grown hgrow (by simp; omega) (fun j hj => (hown3.lt j hj).1))
          clear hown' hgrow hown3 hb hown
          go_wp2_with fail
          go_ret
          exact ⟨v', rfl, Q1.out, Q2.out⟩
end Go.Proofs.Ytfceohoegeebjaa
/- TreW: The walk of the model's BelowOf. -/
namespace Go.Proofs.Ytfceohoegeebjaa
open Go.RowKit
attribute [local go_sem ↓] Go.wp_at_zero Go.wp_at_succ
attribute [local irreducible] nodeOk treeOk atI belowF

/-- The nodes of a row that are another one, or below it. -/
def belowL (all ns : List NM) (id : Int) : List Int := (ns.filter fun n => belowF all 15 n.id id).map NM.id
theorem belowL_snoc (all ns : List NM) (n : NM) (id : Int) : belowL all (ns ++ [n]) id = belowL all ns id ++ if belowF all 15 n.id id = true then [n.id] else [] := by
  unfold belowL
  rw [List.filter_append, List.map_append]
  congr 1
  cases h : belowF all 15 n.id id <;> simp [h]
theorem belowL_len (all ns : List NM) (id : Int) : (belowL all ns id).length ≤ ns.length := by
  unfold belowL
  rw [List.length_map]
  exact List.length_filter_le _ _
def belowX (T : TM) (id : Int) : List Int := if treeOk T = true ∧ 0 ≤ atI T.nodes id then belowL T.nodes T.nodes id else []
theorem ics_snoc9 (xs : List Int) (x : Int) : ics xs ++ [.int .i64 x] = ics (xs ++ [x]) := by simp [ics]
theorem own_wider9 {w : World} {B C n sz : Nat} {t : TypeId} {v : Value} {L : List Value} (h : w.ownsRow B t sz v n L) (hC : C ≤ B) : w.ownsRow C t sz v n L := by
  obtain ⟨h1, h | ⟨g, cap, cur, e, hB, rest⟩⟩ := h
  · exact ⟨h1, .inl h⟩
  · exact ⟨h1, .inr ⟨g, cap, cur, e, Nat.le_trans hC hB, rest⟩⟩
theorem BX.grown {w W W' : World} {a : Option Addr} {n cap : Nat} {nx : Int} {q : Option Nat} (h : BX w W a n cap nx) (hg : W.grownBy W' q) (hq : ∀ k, q = some k → w.heap.size + 1 ≤ k) : BX w W' a n cap nx := by
  have hb : Below (w.heap.size + 1) W W' := (Below.refl _ _).grown hg (by have := h.box.1; omega) hq
  exact ⟨h.bel.trans (hb.mono (by omega)), h.box.below hb (by omega)⟩
theorem belowL_zero (all ns : List NM) (id : Int) : belowL all (ns.take 0) id = [] := by simp [belowL]
attribute [local irreducible] belowL
set_option maxRecDepth 100000 in
set_option maxHeartbeats 4000000 in
theorem specBelowOf {w : World} {v : Value} {T : TM} {lo hi : Nat} (id : Int) (h : TSee w v T lo hi) (hf : NFit T) : Calls Try.prog 38 #[v, .int .i64 id] w fun e w' => IPost (belowX T id) w e w' := by
  have hl : T.nodes.length ≤ 1048576 := by unfold NFit at hf; omega
  have h' := h
  obtain ⟨a, cap, rs, rfl, hr, hm⟩ := h
  obtain ⟨n, hn⟩ : ∃ n, n = rs.length := ⟨_, rfl⟩
  rw [← hn] at h' ⊢
  have HTS := Shut.mk (fun W (hW : Below w.heap.size w W) (c : Int) => specAt c (h'.below hW) hl)
  have HTB := Shut.mk (fun W (hW : Below w.heap.size w W) (c : Int) => specBelow c id (h'.below hW) hf)
  have HTO := Shut.mk (fun W (hW : Below w.heap.size w W) => specTreeOk (h'.below hW) hf)
  obtain ⟨R, hR⟩ : ∃ R, R = belowX T id := ⟨_, rfl⟩
  rw [← hR]
  unfold belowX at hR
  obtain ⟨nodes, nx⟩ := T
  dsimp only at hr HTS HTB HTO hR
  subst hr
  have HM := Shut.mk (And.intro hm hn)
  have hn9 : n ≤ 1048576 := by dsimp only at hl; rw [nds_len] at hl; omega
  have HR := Shut.mk hR
  clear hm hf hR hn h' hl
  cases hok : treeOk ⟨nds rs, nx⟩ with
  | false =>
    have HE : Shut (R = []) := ⟨by rw [HR.out, if_neg (by rw [hok]; simp)]⟩
    rw [hok] at HTO
    clear hok
    go_enter Try.func38, Try.ntmps38
    go_upto_region 1 with fail
    refine wp_shade (fun W => BX w W a n cap nx) (BX.new w a n cap nx 26) ?_
    intro W hg
    have HG := Shut.mk hg
    have x0 := (hg.box.2 0 _ rfl).1
    have x1 := (hg.box.2 1 _ rfl).1
    clear hg
    go_wp2_with fail
    refine (HTO.out _ HG.out.bel).mono ?_
    rintro e W1 ⟨rfl, hb1⟩
    have HG1 := Shut.mk (HG.out.below hb1)
    clear hb1
    go_wp2_with fail
    go_ret
    exact ⟨_, rfl, own_ians (n := 0) (by rw [HE.out, List.length_nil]) (by rw [HE.out]; exact World.ownsRow_made W1 #[] 0 HG1.out.bel.size (by decide) rfl), HG1.out.bel.alloc HG1.out.bel.size _⟩
  | true =>
    rw [hok] at HTO
    rcases at_cases (nds rs) id with ⟨hat, _⟩ | ⟨i0, hi0, hat, _⟩
    · have HE : Shut (R = []) := ⟨by rw [HR.out, if_neg (by rw [hat]; simp)]⟩
      clear hok
      go_enter Try.func38, Try.ntmps38
      go_upto_region 1 with fail
      refine wp_shade (fun W => BX w W a n cap nx) (BX.new w a n cap nx 26) ?_
      intro W hg
      have HG := Shut.mk hg
      have x0 := (hg.box.2 0 _ rfl).1
      have x1 := (hg.box.2 1 _ rfl).1
      clear hg
      go_wp2_with fail
      refine (HTO.out _ HG.out.bel).mono ?_
      rintro e W1 ⟨rfl, hb1⟩
      have HG1 := Shut.mk (HG.out.below hb1)
      clear hb1 x0 x1 HG
      go_upto_region 4 with fail
      refine wp_shade (fun W => BX w W a n cap nx ∧ W.ownsRow (w.heap.size + 1) 3 1 (.slice (some ⟨W1.heap.size, 0, none⟩) 0 0) 0 []) ⟨HG1.out.below ((Below.refl _ _).alloc (Nat.le_refl _) _), World.ownsRow_made W1 #[] 0 (by have := HG1.out.box.1; omega) (by decide) rfl⟩ ?_
      rintro W2 ⟨hg2, ho2⟩
      have HG2 := Shut.mk (And.intro hg2 ho2)
      have x0 := (hg2.box.2 0 _ rfl).1
      have x1 := (hg2.box.2 1 _ rfl).1
      have HAT := Shut.mk (HTS.out W2 hg2.bel id)
      rw [hat] at HAT
      clear hg2 ho2 HG1 hat
      go_wp2_with fail
      refine HAT.out.mono ?_
      rintro e W3 ⟨rfl, hb3⟩
      have HG3 := Shut.mk (And.intro (HG2.out.1.below hb3) (HG2.out.2.kept (row := none) ⟨hb3.os, hb3.tape, hb3.output, hb3.size, fun k hk _ => hb3.block k hk⟩ (Classical.em _)))
      clear hb3
      go_wp2_with fail
      go_ret
      exact ⟨_, rfl, own_ians (n := 0) (by rw [HE.out, List.length_nil]) (by rw [HE.out]; exact own_wider9 HG3.out.2 (by omega)), HG3.out.1.bel⟩
    · have HRR : Shut (R = belowL (nds rs) (nds rs) id) := ⟨by rw [HR.out, if_pos ⟨hok, by omega⟩]⟩
      obtain ⟨t0, ht0, hty0, hty1, hty2⟩ := info_parts infoIntG
      clear hok HR
      go_enter Try.func38, Try.ntmps38
      go_upto_region 1 with fail
      refine wp_shade (fun W => BX w W a n cap nx) (BX.new w a n cap nx 26) ?_
      intro W hg
      have HG := Shut.mk hg
      have x0 := (hg.box.2 0 _ rfl).1
      have x1 := (hg.box.2 1 _ rfl).1
      clear hg
      go_wp2_with fail
      refine (HTO.out _ HG.out.bel).mono ?_
      rintro e W1 ⟨rfl, hb1⟩
      have HG1 := Shut.mk (HG.out.below hb1)
      clear hb1 x0 x1 HG
      go_upto_region 4 with fail
      refine wp_shade (fun W => BX w W a n cap nx ∧ W.ownsRow (w.heap.size + 1) 3 1 (.slice (some ⟨W1.heap.size, 0, none⟩) 0 0) 0 []) ⟨HG1.out.below ((Below.refl _ _).alloc (Nat.le_refl _) _), World.ownsRow_made W1 #[] 0 (by have := HG1.out.box.1; omega) (by decide) rfl⟩ ?_
      rintro W2 ⟨hg2, ho2⟩
      have HG2 := Shut.mk (And.intro hg2 ho2)
      have x0 := (hg2.box.2 0 _ rfl).1
      have x1 := (hg2.box.2 1 _ rfl).1
      have HAT := Shut.mk (HTS.out W2 hg2.bel id)
      rw [hat] at HAT
      have i2 : ¬ (i0 : Int) < 0 := by omega
      clear hg2 ho2 HG1 hat
      go_wp2_with fail
      refine HAT.out.mono ?_
      rintro e W3 ⟨rfl, hb3⟩
      have HG3 := Shut.mk (And.intro (HG2.out.1.below hb3) (HG2.out.2.kept (row := none) ⟨hb3.os, hb3.tape, hb3.output, hb3.size, fun k hk _ => hb3.block k hk⟩ (Classical.em _)))
      clear hb3 x0 x1 HG2 HAT
      have x0 := (HG3.out.1.box.2 0 _ rfl).1
      go_wp2_with fail
      go_loopw [5, 6] (fun ov iv wr => ∃ (k l : Nat) (vv : Value), vv = ov ∧ iv = .int .i64 k ∧ k ≤ n ∧ l ≤ k ∧ Shut (l = (belowL (nds rs) ((nds rs).take k) id).length) ∧ Shut (BX w wr a n cap nx ∧ wr.ownsRow (w.heap.size + 1) 3 1 vv l (ics (belowL (nds rs) ((nds rs).take k) id)))) (fun _ iv _ => n - (intOf iv).toNat)
      case atStart => exact ⟨0, 0, _, rfl, rfl, Nat.zero_le _, Nat.le_refl _, ⟨by rw [belowL_zero, List.length_nil]⟩, ⟨by rw [belowL_zero]; exact HG3.out⟩⟩
      case round =>
        clear HG3 x0
        obtain ⟨k, l, ov, rfl, rfl, hk, hlk, HL, HG⟩ := hrel
        obtain ⟨wo, rfl⟩ : ∃ wo, wo = wr := ⟨_, rfl⟩
        have x0 := (HG.out.1.box.2 0 _ rfl).1
        have x1 := (HG.out.1.box.2 1 _ rfl).1
        by_cases hlt : k < n
        · have hkr : k < rs.length := by have := HM.out.2; omega
          have k0 : (0 : Int) ≤ (k : Int) := by omega
          have k1 : (k : Int) < (n : Int) := by omega
          obtain ⟨b, off, rfl, lb, hc⟩ := TR.nat (HM.out.1.below HG.out.1.bel) (by omega)
          have HC := Shut.mk (hc k hkr)
          have e0 := (hc k hkr).1
          have hst : (nds rs).take (k + 1) = (nds rs).take k ++ [rs[k].nd] := by
            rw [List.take_succ_eq_append_getElem (by rw [nds_len]; exact hkr), nds_at rs k hkr]
          have HBC := Shut.mk (fun W (hW : Below wo.heap.size wo W) => HTB.out W (HG.out.1.bel.trans (hW.mono HG.out.1.bel.size)) rs[k].nd.id)
          have hbs := belowL_snoc (nds rs) ((nds rs).take k) rs[k].nd id
          rw [← hst] at hbs
          have HBS := Shut.mk hbs
          clear hc hst hbs
          generalize rs[k] = r at *
          have hwl : w.heap.size < wo.heap.size := HG.out.1.box.1
          cases hbf : belowF (nds rs) 15 r.nd.id id with
          | false =>
            rw [hbf] at HBC HBS
            have HB' : Shut (belowL (nds rs) ((nds rs).take (k + 1)) id = belowL (nds rs) ((nds rs).take k) id) := ⟨by rw [HBS.out]; simp⟩
            clear hbf HBS
            go_wp2_with fail
            go_region_held3 (fun w' => w'.cell? ⟨w.heap.size, 0, none⟩ = some (.slice (some ⟨b, off, none⟩) n cap) ∧ w'.cell? ⟨w.heap.size, 1, none⟩ = some (.int .i64 nx) ∧ w'.cell? ⟨b, off + k * 9, none⟩ = some (.int .i64 r.nd.id))
              (first | go_keep | (refine ⟨?_, ?_, ?_⟩ <;> first | (rw [hb9.cell (by exact hwl)]; simp [*]; done) | (rw [hb9.cell (by exact lb)]; simp [*]; done)))
              ((go_at_call 72; refine (HBC.out _ (by first | exact Below.refl _ _ | exact Below.drew (Below.refl _ _))).mono ?_; rintro e w9 ⟨rfl, hb9⟩))
            all_goals
              have hb : Below wo.heap.size wo w9 := by first | exact (Below.drew (Below.refl _ _)).trans hb9 | exact hb9
              have HGN := Shut.mk (And.intro (HG.out.1.below hb) (HG.out.2.kept (row := none) ⟨hb.os, hb.tape, hb.output, hb.size, fun k hk _ => hb.block k hk⟩ (Classical.em _)))
              clear hb hb9
              go_wp2_with fail
              go_roundw
              case rel => exact ⟨k + 1, l, ov, rfl, by go_num, by omega, by omega, ⟨by rw [HB'.out]; exact HL.out⟩, ⟨by rw [HB'.out]; exact HGN.out⟩⟩
              case measure => simp [intOf]; omega
          | true =>
            rw [hbf] at HBC HBS
            have HB' : Shut (belowL (nds rs) ((nds rs).take (k + 1)) id = belowL (nds rs) ((nds rs).take k) id ++ [r.nd.id]) := ⟨by rw [HBS.out]; simp⟩
            clear hbf HBS
            go_wp2_with fail
            go_region_held3 (fun w' => w'.cell? ⟨w.heap.size, 0, none⟩ = some (.slice (some ⟨b, off, none⟩) n cap) ∧ w'.cell? ⟨w.heap.size, 1, none⟩ = some (.int .i64 nx) ∧ w'.cell? ⟨b, off + k * 9, none⟩ = some (.int .i64 r.nd.id))
              (first | go_keep | (refine ⟨?_, ?_, ?_⟩ <;> first | (rw [hb9.cell (by exact hwl)]; simp [*]; done) | (rw [hb9.cell (by exact lb)]; simp [*]; done)))
              ((go_at_call 72; refine (HBC.out _ (by first | exact Below.refl _ _ | exact Below.drew (Below.refl _ _))).mono ?_; rintro e w9 ⟨rfl, hb9⟩))
            all_goals
              have hb : Below wo.heap.size wo w9 := by first | exact (Below.drew (Below.refl _ _)).trans hb9 | exact hb9
              have HGN := Shut.mk (And.intro (HG.out.1.below hb) (HG.out.2.kept (row := none) ⟨hb.os, hb.tape, hb.output, hb.size, fun k hk _ => hb.block k hk⟩ (Classical.em _)))
              have z0 := (HGN.out.1.box.2 0 _ rfl).1
              have f0 := ((HC.out.below hb lb)).1
              have hs9 : w.heap.size + 1 ≤ w9.heap.size := by have := HGN.out.1.box.1; omega
              have ho9 := HGN.out.2
              clear hb hb9 x0 x1 e0
              go_wp2_with (at_builtin; refine wpList_append_own _ rfl _ _ 32 rfl (w.heap.size + 1) 3 t0 (.int .i64 0) 1 8 Try.underlying32 ht0 hty0 hty1 hty2 rfl (by decide) _ _ _ rfl (ho9.alloc _) ⟨w9.heap.size, 0, none⟩ 1 1 [.int .i64 r.nd.id] rfl rfl (cell_one_new _ _ _) ?c2 ?c3 ?c4 ?c5 ?_)
              case c2 => first | rfl | (intro u hu; simp at hu; subst hu; rfl)
              case c3 => unfold maxLen; omega
              case c4 => omega
              case c5 => first | omega | (simp; omega)
              intro v' w10 ho10 hgrow _
              rw [ics_snoc9, ← HB'.out] at ho10
              have HGZ := Shut.mk (And.intro ((HGN.out.1.below ((Below.refl _ _).alloc (Nat.le_refl _) _)).grown hgrow (fun j hj => (ho9.lt j hj).1)) ho10)
              clear hgrow ho10 ho9
              go_wp2_with fail
              go_roundw
              case rel => exact ⟨k + 1, l + 1, v', rfl, by go_num, by omega, by omega, ⟨by rw [HB'.out, List.length_append, List.length_singleton, ← HL.out]⟩, HGZ⟩
              case measure => simp [intOf]; omega
        · have k1 : ¬ (k : Int) < (n : Int) := by omega
          have hall : (nds rs).take k = nds rs := List.take_of_length_le (by rw [nds_len]; have := HM.out.2; omega)
          have ho := HG.out.2
          have hlen := HL.out
          rw [hall, ← HRR.out] at ho
          rw [hall, ← HRR.out] at hlen
          have HF := Shut.mk (And.intro hlen ho)
          clear hall ho hlen
          go_wp2_with fail
          go_ret
          exact ⟨ov, rfl, own_ians HF.out.1.symm (own_wider9 HF.out.2 (by omega)), HG.out.1.bel⟩
end Go.Proofs.Ytfceohoegeebjaa
/- TreX: The walk of the model's UsedBelow. -/
namespace Go.Proofs.Ytfceohoegeebjaa
open Go.RowKit
attribute [local go_sem ↓] Go.wp_at_zero Go.wp_at_succ

/-- What nodes of these numbers use. -/
def usedL (ns : List NM) : List Int → Int
  | [] => 0
  | x :: xs => (ns.getD (atI ns x).toNat default).len + usedL ns xs
theorem usedL_append (ns : List NM) (xs ys : List Int) : usedL ns (xs ++ ys) = usedL ns xs + usedL ns ys := by
  induction xs with
  | nil => simp [usedL]
  | cons x xs ih => simp only [List.cons_append, usedL, ih]; omega
theorem usedL_take (ns : List NM) (xs : List Int) (k : Nat) (h : k < xs.length) : usedL ns (xs.take (k + 1)) = usedL ns (xs.take k) + (ns.getD (atI ns xs[k]).toNat default).len := by
  rw [List.take_succ_eq_append_getElem h, usedL_append]
  simp [usedL]
def usedX (T : TM) (id : Int) : Int := usedL T.nodes (belowX T id)
theorem fileOk_len {n : NM} (h : fileOk n = true) : 0 ≤ n.len ∧ n.len ≤ 1000 := by
  unfold fileOk at h
  simp only [Bool.and_eq_true, beq_iff_eq, decide_eq_true_eq, List.all_eq_true] at h
  obtain ⟨⟨⟨_, h5⟩, h6⟩, h7⟩ := h
  have := (sumP_ok h5).1
  omega
theorem dirOk_len {n : NM} (h : dirOk n = true) : n.len = 0 := by
  unfold dirOk at h
  simp only [Bool.and_eq_true, beq_iff_eq] at h
  exact h.1.1.2
theorem nodeOk_len {T : TM} {i : Nat} (h : nodeOk T i = true) : 0 ≤ (T.nodes.getD i default).len ∧ (T.nodes.getD i default).len ≤ 1000 := by
  unfold nodeOk at h
  simp only [Bool.and_eq_true] at h
  have h3 := h.1.2
  split at h3
  · have := dirOk_len h3; omega
  · exact fileOk_len h3
theorem treeOk_node {T : TM} (h : treeOk T = true) {i : Nat} (hi : i < T.nodes.length) : nodeOk T i = true := by
  unfold treeOk at h
  simp only [Bool.and_eq_true, List.all_eq_true] at h
  exact h.2 i (List.mem_range.2 hi)
theorem treeOk_14 {T : TM} (h : treeOk T = true) : T.nodes.length ≤ 14 := by
  unfold treeOk at h
  simp only [Bool.and_eq_true, decide_eq_true_eq] at h
  exact h.1.1.2
theorem belowX_mem {T : TM} {id x : Int} (h : x ∈ belowX T id) : treeOk T = true ∧ ∃ n ∈ T.nodes, n.id = x := by
  unfold belowX at h
  split at h
  · rename_i hc
    refine ⟨hc.1, ?_⟩
    unfold belowL at h
    obtain ⟨n, hn, rfl⟩ := List.mem_map.1 h
    exact ⟨n, (List.mem_filter.1 hn).1, rfl⟩
  · simp at h
theorem belowX_at {T : TM} {id x : Int} (h : x ∈ belowX T id) : ∃ i, i < T.nodes.length ∧ atI T.nodes x = (i : Int) ∧ 0 ≤ (T.nodes.getD i default).len ∧ (T.nodes.getD i default).len ≤ 1000 := by
  obtain ⟨hok, n, hn, hid⟩ := belowX_mem h
  rcases at_cases T.nodes x with ⟨_, hno⟩ | ⟨i, hi, hat, _⟩
  · have := List.findIdx?_eq_none_iff.1 hno n hn
    simp [hid] at this
  · exact ⟨i, hi, hat, nodeOk_len (treeOk_node hok hi)⟩
theorem belowX_len (T : TM) (id : Int) : (belowX T id).length ≤ 14 := by
  unfold belowX
  split
  · rename_i hc
    have := belowL_len T.nodes T.nodes id
    have := treeOk_14 hc.1
    omega
  · simp
attribute [local irreducible] nodeOk treeOk atI belowF belowL belowX
set_option maxRecDepth 100000 in
set_option maxHeartbeats 4000000 in
theorem specUsedBelow {w : World} {v : Value} {T : TM} {lo hi : Nat} (id : Int) (h : TSee w v T lo hi) (hf : NFit T) : Calls Try.prog 44 #[v, .int .i64 id] w fun e w' => e = .returned (.int .i64 (usedX T id)) ∧ Below w.heap.size w w' := by
  have hl : T.nodes.length ≤ 1048576 := by unfold NFit at hf; omega
  have h' := h
  obtain ⟨a, cap, rs, rfl, hr, hm⟩ := h
  obtain ⟨n, hn⟩ : ∃ n, n = rs.length := ⟨_, rfl⟩
  rw [← hn] at h' ⊢
  have HTS := Shut.mk (fun W (hW : Below w.heap.size w W) (c : Int) => specAt c (h'.below hW) hl)
  have HBO := Shut.mk (fun W (hW : Below w.heap.size w W) => specBelowOf id (h'.below hW) hf)
  obtain ⟨R, hR⟩ : ∃ R, R = usedX T id := ⟨_, rfl⟩
  rw [← hR]
  unfold usedX at hR
  have HAT := Shut.mk (fun x (hx : x ∈ belowX T id) => belowX_at hx)
  have hbl := belowX_len T id
  obtain ⟨B, hB⟩ : ∃ B, B = belowX T id := ⟨_, rfl⟩
  rw [← hB] at HBO HAT hbl hR
  obtain ⟨nodes, nx⟩ := T
  dsimp only at hr HTS HBO hR HAT
  subst hr
  have HM := Shut.mk (And.intro hm hn)
  have hn9 : n ≤ 1048576 := by dsimp only at hl; rw [nds_len] at hl; omega
  have HR := Shut.mk hR
  obtain ⟨l, hle⟩ : ∃ l, l = B.length := ⟨_, rfl⟩
  have HL := Shut.mk hle
  rw [← hle] at hbl
  clear hm hf hR hn h' hl hB hle
  go_enter Try.func44, Try.ntmps44
  go_upto_region 1 with fail
  refine wp_shade (fun W => BX w W a n cap nx) (BX.new w a n cap nx 26) ?_
  intro W hg
  have HG := Shut.mk hg
  have x0 := (hg.box.2 0 _ rfl).1
  have x1 := (hg.box.2 1 _ rfl).1
  clear hg
  go_wp2_with fail
  refine (HBO.out _ HG.out.bel).mono ?_
  rintro e W1 ⟨bv, rfl, hia, hb1⟩
  obtain ⟨ba', bc, rfl, _, hq⟩ := hia
  have hrow : CRow W1 ba' (ics B) := by
    rcases hq with e | ⟨g, rfl, _, _, hw⟩
    · rw [e]; intro h; simp [ics] at h
    · exact hw.crow
  have HG1 := Shut.mk (And.intro (HG.out.below hb1) hrow)
  rw [← HL.out]
  clear hb1 hq hrow x0 x1 HG
  go_wp2_with fail
  go_loopw [6, 7] (fun sv iv wr => ∃ (k : Nat) (z : Int), sv = .int .i64 z ∧ iv = .int .i64 k ∧ k ≤ l ∧ 0 ≤ z ∧ z ≤ 1000 * k ∧ Shut (z = usedL (nds rs) (B.take k)) ∧ Shut (BX w wr a n cap nx ∧ CRow wr ba' (ics B))) (fun _ iv _ => l - (intOf iv).toNat)
  case atStart => exact ⟨0, 0, rfl, rfl, Nat.zero_le _, by omega, by omega, ⟨by simp [usedL]⟩, HG1⟩
  case round =>
    clear HG1
    obtain ⟨k, z, rfl, rfl, hk, hz0, hz1, HZ, HG⟩ := hrel
    by_cases hlt : k < l
    · have hkb : k < B.length := by have := HL.out; omega
      have k0 : (0 : Int) ≤ (k : Int) := by omega
      have k1 : (k : Int) < (l : Int) := by omega
      have x0 := (HG.out.1.box.2 0 _ rfl).1
      have x1 := (HG.out.1.box.2 1 _ rfl).1
      have hwl : w.heap.size < wr.heap.size := HG.out.1.box.1
      obtain ⟨bb, bo, rfl, blt, hbc⟩ := HG.out.2 (by rw [ics_len]; omega)
      have hx : B[k] ∈ B := List.getElem_mem hkb
      have y0 := hbc k (.int .i64 B[k]) (by simp [ics, hkb])
      obtain ⟨i, hi, hat, hn0, hn1⟩ := HAT.out B[k] hx
      have hir : i < rs.length := by rw [nds_len] at hi; exact hi
      have hst := usedL_take (nds rs) B k hkb
      rw [hat, Int.toNat_natCast, nds_getD hir] at hst
      rw [nds_getD hir] at hn0 hn1
      have HST := Shut.mk hst
      have i0 : (0 : Int) ≤ (i : Int) := by omega
      have i1 : (i : Int) < (n : Int) := by have := HM.out.2; omega
      obtain ⟨b, off, rfl, lb, hc⟩ := TR.nat (HM.out.1.below HG.out.1.bel) (by omega)
      have e6 := (hc i hir).2.2.2.2.2.2.1
      have HCL := Shut.mk (fun W (hW : Below wr.heap.size wr W) => HTS.out W (HG.out.1.bel.trans (hW.mono HG.out.1.bel.size)) B[k])
      rw [hat] at HCL
      have hwz : IntKind.i64.wrap (z + rs[i].nd.len) = z + rs[i].nd.len := IntWalk.i64_in _ ⟨by omega, by omega⟩
      clear hbc hc hst hat hi hx
      generalize rs[i].nd.len = q at *
      generalize B[k] = x at *
      go_wp2_with fail
      go_region_held3 (fun w' => w'.cell? ⟨w.heap.size, 0, none⟩ = some (.slice (some ⟨b, off, none⟩) n cap) ∧ w'.cell? ⟨w.heap.size, 1, none⟩ = some (.int .i64 nx) ∧ w'.cell? ⟨bb, bo + k, none⟩ = some (.int .i64 x) ∧ w'.cell? ⟨b, off + i * 9 + 6, none⟩ = some (.int .i64 q))
        (first | go_keep | (refine ⟨?_, ?_, ?_, ?_⟩ <;> first | (rw [hb9.cell (by exact hwl)]; simp [*]; done) | (rw [hb9.cell (by exact lb)]; simp [*]; done) | (rw [hb9.cell (by exact blt)]; simp [*]; done)))
        ((go_at_call 51; refine (HCL.out _ (by first | exact Below.refl _ _ | exact Below.drew (Below.refl _ _))).mono ?_; rintro e w9 ⟨rfl, hb9⟩))
      all_goals
        have hb : Below wr.heap.size wr w9 := by first | exact (Below.drew (Below.refl _ _)).trans hb9 | exact hb9
        have HGN := Shut.mk (And.intro (HG.out.1.below hb) (HG.out.2.stays hb))
        clear hb hb9
        go_wp2_with fail
        go_roundw
        case rel => exact ⟨k + 1, z + q, rfl, by go_num, by omega, by omega, by push_cast; omega, ⟨by rw [HST.out, HZ.out]⟩, HGN⟩
        case measure => simp [intOf]; omega
    · have k1 : ¬ (k : Int) < (l : Int) := by omega
      have HE : Shut (R = z) := ⟨by rw [HR.out, HZ.out, List.take_of_length_le (by have := HL.out; omega)]⟩
      go_wp2_with fail
      go_ret
      exact ⟨by rw [HE.out]; rfl, HG.out.1.bel⟩
end Go.Proofs.Ytfceohoegeebjaa
/- PathB: The walks of the models' SplitPath and JoinPath. -/
namespace Go.Proofs.Ytfceohoegeebjaa
open Go.RowKit
open Go.PlainAid (bt)
attribute [local go_sem ↓] Go.wp_at_zero Go.wp_at_succ

/-- What an answer of texts and a flag is, in a row that may be made longer. -/
def OPost (R : List ByteArray × Bool) (w : World) (e : Ending) (w' : World) : Prop := ∃ v, e = .returned (.tuple #[v, .bool R.2]) ∧ w'.ownsRow w.heap.size 9 1 v R.1.length (tv R.1) ∧ Below w.heap.size w w'
theorem OPost.none {R : List ByteArray × Bool} {b : Bool} {w w' : World} {v : Value} (h : R = ([], b)) (ho : w'.ownsRow w.heap.size 9 1 v 0 []) (hb : Below w.heap.size w w') : OPost R w (.returned (.tuple #[v, .bool b])) w' := by
  unfold OPost
  rw [h]
  exact ⟨v, rfl, ho, hb⟩
theorem OPost.some {R L : List ByteArray × Bool} {w w' : World} {v : Value} (h : R = L) (ho : w'.ownsRow w.heap.size 9 1 v L.1.length (tv L.1)) (hb : Below w.heap.size w w') : OPost R w (.returned (.tuple #[v, .bool L.2])) w' := by
  rw [h]
  exact ⟨v, rfl, ho, hb⟩
theorem own_made0 {w w' : World} (hb : Below w.heap.size w w') : (w'.alloc (.cells #[] 9)).ownsRow w.heap.size 9 1 (.slice (.some ⟨w'.heap.size, 0, none⟩) 0 0) 0 [] := World.ownsRow_made w' #[] 0 hb.size (by decide) rfl
theorem splitB_first {p : ByteArray} (h : p.size = 0 ∨ bt p 0 ≠ 47) : splitB p = ([], false) := by
  have hl : (lb p).length = p.size := rfl
  unfold splitB
  cases e : lb p with
  | nil => rfl
  | cons c r =>
    have hc : c ≠ 47 := fun q => by
      subst q
      rw [e] at hl
      simp at hl
      rcases h with h | h
      · omega
      · apply h
        have h1 : 0 < p.size := by omega
        rw [bt_at h1]
        simp only [e, List.getElem_cons_zero]
        decide
    have e2 : splitP (c :: r) = ([], false) := by unfold splitP; exact if_neg hc
    rw [e2]; rfl
theorem splitB_one {p : ByteArray} (h : p = ⟨#[47]⟩) : splitB p = ([], true) := by subst h; rfl
theorem one_slash {p : ByteArray} (h : p.size = 1) (h0 : bt p 0 = 47) : p = ⟨#[47]⟩ := by
  have hl : (lb p).length = p.size := rfl
  have e : lb p = [47] := by
    cases e : lb p with
    | nil => rw [e] at hl; simp at hl; omega
    | cons c r =>
      rw [e] at hl
      have hr : r = [] := List.eq_nil_of_length_eq_zero (by simp at hl; omega)
      subst hr
      congr 1
      have h2 := bt_at (s := p) (j := 0) (by omega)
      simp only [e, List.getElem_cons_zero] at h2
      rw [h0] at h2
      have h3 : c.toNat = 47 := by omega
      exact UInt8.toNat_inj.1 h3
  have := congrArg ba e
  rw [ba_lb] at this
  exact this
/-- What the way through a path knows. -/
structure PaWay (p : ByteArray) (k bg : Nat) (done : List ByteArray) : Prop where
  open' : k ≤ p.size → PaRel p k bg done
  fin : p.size < k → (segs ((lb p).drop 1)).map ba = done ∧ ∀ s ∈ done, nameB s = true
theorem PaWay.split {p : ByteArray} {k bg : Nat} {done : List ByteArray} (h : PaWay p k bg done) (hk : k ≤ p.size) (hc : k < p.size → bt p k = 47) : ∃ rest, (segs ((lb p).drop 1)).map ba = (done ++ [p.extract bg k]) ++ rest := by
  by_cases e : k < p.size
  · exact ⟨_, (h.open' hk).split e (hc e)⟩
  · exact ⟨[], by rw [List.append_nil]; exact (h.open' hk).fin (by omega)⟩
theorem PaWay.bad {p : ByteArray} {k bg : Nat} {done : List ByteArray} (h : PaWay p k bg done) (h1 : 1 < p.size) (h0 : bt p 0 = 47) (hk : k ≤ p.size) (hc : k < p.size → bt p k = 47) (hn : nameB (p.extract bg k) = false) : splitB p = ([], false) := by
  obtain ⟨rest, e⟩ := h.split hk hc
  rw [splitB_rest h1 h0, if_neg (fun q => by
    have := q.1 (p.extract bg k) (by rw [e]; simp)
    rw [hn] at this; cases this)]
theorem PaWay.next {p : ByteArray} {k bg : Nat} {done : List ByteArray} (h : PaWay p k bg done) (hk : k ≤ p.size) (hc : k < p.size → bt p k = 47) (hn : nameB (p.extract bg k) = true) : PaWay p (k + 1) (k + 1) (done ++ [p.extract bg k]) := by
  refine ⟨fun q => (h.open' hk).next (by omega) (hc (by omega)) hn, fun q => ⟨(h.open' hk).fin (by omega), fun s hs => ?_⟩⟩
  rcases List.mem_append.1 hs with q | q
  · exact (h.open' hk).names s q
  · simp at q; subst q; exact hn
theorem PaWay.step {p : ByteArray} {k bg : Nat} {done : List ByteArray} (h : PaWay p k bg done) (hk : k < p.size) (hc : bt p k ≠ 47) : PaWay p (k + 1) bg done := ⟨fun _ => (h.open' (by omega)).step hc, fun q => by omega⟩
theorem PaWay.done {p : ByteArray} {k bg : Nat} {done : List ByteArray} (h : PaWay p k bg done) (h1 : 1 < p.size) (h0 : bt p 0 = 47) (hk : p.size < k) : splitB p = if done.length ≤ 4 then (done, true) else ([], false) := by
  obtain ⟨e, hn⟩ := h.fin hk
  rw [splitB_rest h1 h0, e]
  by_cases q : done.length ≤ 4
  · rw [if_pos ⟨hn, q⟩, if_pos q]
  · rw [if_neg (fun k => q k.2), if_neg q]
set_option maxRecDepth 100000 in
set_option maxHeartbeats 2000000 in
theorem specSplitPath (p : ByteArray) (w : World) (hs : p.size ≤ 1048576) : Calls Try.prog 64 #[.string p] w fun e w' => OPost (splitB p) w e w' := by
  obtain ⟨i0, hi, hz0, hz1, hz2⟩ := info_parts infoTextG
  have hb := Go.PlainAid.get_bt p
  have hal : Below w.heap.size w (w.alloc (.cells #[] 9)) := (Below.refl _ _).alloc (Nat.le_refl _) _
  have HAL := Shut.mk hal
  have HOW := Shut.mk (own_made0 (Below.refl w.heap.size w))
  clear hal
  by_cases h0 : p.size = 0
  · have HE := Shut.mk (splitB_first (.inl h0))
    have h0' : ((p.size : Int) == 0) = true := by rw [h0]; rfl
    go_enter Try.func64, Try.ntmps64
    go_wp2_with fail
    go_ret2
    exact OPost.none HE.out HOW.out HAL.out
  have h0' : ((p.size : Int) == 0) = false := by rw [beq_eq_false_iff_ne]; omega
  have h0n : 0 < p.size := by omega
  have h0i : (0 : Int) < (p.size : Int) := by omega
  have b0 := Go.PlainAid.bt_nonneg p 0
  have b1 := Go.PlainAid.bt_le p 0
  by_cases hc : bt p 0 = 47
  case neg =>
    have HE := Shut.mk (splitB_first (.inr hc))
    have hc' : (bt p 0 != 47) = true := by rw [bne_iff_ne]; exact hc
    go_enter Try.func64, Try.ntmps64
    go_wp2_with fail
    go_ret2
    exact OPost.none HE.out HOW.out HAL.out
  have hc' : (bt p 0 != 47) = false := by rw [hc]; rfl
  have HC := Shut.mk hc
  clear hc
  by_cases h1 : p = ⟨#[47]⟩
  · have HE := Shut.mk (splitB_one h1)
    have h1' : (p.toList == [47]) = true := by rw [h1, Go.ByteArray.toList_eq]; rfl
    have HP := Shut.mk h1
    clear h1
    go_enter Try.func64, Try.ntmps64
    go_wp2_with fail
    go_ret2
    exact OPost.none HE.out HOW.out HAL.out
  have h1' : (p.toList == [47]) = false := by
    rw [beq_eq_false_iff_ne]
    intro e
    rw [Go.ByteArray.toList_eq] at e
    exact h1 (ByteArray.ext (Array.toList_inj.1 e))
  have hsz : 1 < p.size := by
    by_cases e : p.size = 1
    · exact absurd (one_slash e HC.out) h1
    · omega
  clear h1
  go_enter Try.func64, Try.ntmps64
  go_wp2_with fail
  go_loopw [4, 5, 6] (fun v bg i wr => ∃ (k g : Nat) (done : List ByteArray) (vv : Value), vv = v ∧ bg = .int .i64 g ∧ i = .int .i64 k ∧ k ≤ p.size + 1 ∧ g ≤ k ∧ done.length ≤ k ∧ Shut (PaWay p k g done) ∧ Shut (wr.ownsRow w.heap.size 9 1 vv done.length (tv done)) ∧ Shut (Below w.heap.size w wr)) (fun _ _ i _ => p.size + 1 - (intOf i).toNat)
  case atStart => exact ⟨1, 1, [], _, rfl, rfl, rfl, by omega, by omega, by simp, ⟨⟨fun _ => PaRel.start, fun h => by omega⟩⟩, HOW, HAL⟩
  case round =>
    clear HOW HAL
    obtain ⟨k, g, done, v, rfl, rfl, rfl, hk, hgk, hdk, hway, hown, hbl⟩ := hrel
    have hB := hbl.out.size
    by_cases hlt : k < p.size
    · have c0 := Go.PlainAid.bt_nonneg p k
      have c1 := Go.PlainAid.bt_le p k
      have k1 : (k : Int) ≤ (p.size : Int) := by omega
      have k2 : (k : Int) < (p.size : Int) := by omega
      have k3 : (0 : Int) ≤ (k : Int) := by omega
      by_cases hne : bt p k = 47
      · have hne' : (bt p k != 47) = false := by rw [hne]; rfl
        have hsl := slice_str p g k hgk (by omega)
        have hes : (p.extract g k).size ≤ 1048576 := by rw [ByteArray.size_extract]; omega
        have HN := Shut.mk (fun W => specNameOk (p.extract g k) W hes)
        have HNE := Shut.mk hne
        clear hne
        cases hn : nameB (p.extract g k) with
        | false =>
          have HE := Shut.mk (hway.out.bad hsz HC.out (by omega) (fun _ => HNE.out) hn)
          rw [hn] at HN
          clear hn
          go_wp2_with fail
          refine (HN.out _).mono ?_
          rintro e w2 ⟨rfl, hb2⟩
          have HB2 := Shut.mk (hbl.out.trans (hb2.mono hbl.out.size))
          clear hb2
          go_wp2_with fail
          go_ret2
          exact OPost.none HE.out (own_made0 HB2.out) (HB2.out.alloc HB2.out.size _)
        | true =>
          have HE := Shut.mk (hway.out.next (by omega) (fun _ => HNE.out) hn)
          rw [hn] at HN
          clear hn
          generalize p.extract g k = x at *
          go_wp2_with fail
          refine (HN.out _).mono ?_
          rintro e w2 ⟨rfl, hb2⟩
          have HB2 := Shut.mk (hbl.out.trans (hb2.mono hbl.out.size))
          have hB2 := HB2.out.size
          have hown2 := hown.out.kept (row := none) ⟨hb2.os, hb2.tape, hb2.output, hb2.size, fun k hk _ => hb2.block k hk⟩ (Classical.em _)
          clear hb2 HN hway hown
          go_wp2_with (at_builtin; refine wpList_append_own _ rfl _ _ 49 rfl w.heap.size 9 i0 (.string ⟨#[]⟩) 1 16 Try.underlying49 hi hz0 hz1 hz2 rfl (by decide) _ _ _ rfl (hown2.alloc _) ⟨w2.heap.size, 0, none⟩ 1 1 [.string x] rfl rfl (cell_one_new _ _ _) ?c2 ?c3 ?c4 ?c5 ?_)
          case c2 => first | rfl | (intro u hu; simp at hu; subst hu; rfl)
          case c3 => unfold maxLen; omega
          case c4 => omega
          case c5 => first | omega | (simp; omega)
          intro v' w4 hown' hgrow _
          rw [tv_snoc] at hown'
          have Q1 : Shut (w4.ownsRow w.heap.size 9 1 v' (done ++ [x]).length (tv (done ++ [x]))) := ⟨by rw [List.length_append, List.length_singleton]; exact hown'⟩
          have Q2 := Shut.mk ((HB2.out.alloc hB2 (.cells #[.string x] 9)).grown hgrow (by simp; omega) (fun j hj => (hown2.lt j hj).1))
          clear hown' hgrow hown2
          go_wp2_with fail
          go_roundw
          case rel => exact ⟨k + 1, k + 1, _, v', rfl, by go_num, by go_num, by omega, by omega, by rw [List.length_append, List.length_singleton]; omega, HE, Q1, Q2⟩
          case measure => simp [intOf]; omega
      · have hne' : (bt p k != 47) = true := by rw [bne_iff_ne]; exact hne
        have HE := Shut.mk (hway.out.step hlt hne)
        go_wp2_with fail
        go_roundw
        case rel => exact ⟨k + 1, g, done, v, rfl, rfl, by go_num, by omega, by omega, by omega, HE, hown, hbl⟩
        case measure => simp [intOf]; omega
    · by_cases hek : k = p.size
      · have k1 : (k : Int) ≤ (p.size : Int) := by omega
        have k2 : ¬ (k : Int) < (p.size : Int) := by omega
        have hsl := slice_str p g k hgk (by omega)
        have hes : (p.extract g k).size ≤ 1048576 := by rw [ByteArray.size_extract]; omega
        have HN := Shut.mk (fun W => specNameOk (p.extract g k) W hes)
        have HK : Hid (k = p.size) := hek
        clear hek
        cases hn : nameB (p.extract g k) with
        | false =>
          have HE := Shut.mk (hway.out.bad hsz HC.out (by omega) (fun q => by omega) hn)
          rw [hn] at HN
          clear hn
          go_wp2_with fail
          refine (HN.out _).mono ?_
          rintro e w2 ⟨rfl, hb2⟩
          have HB2 := Shut.mk (hbl.out.trans (hb2.mono hbl.out.size))
          clear hb2
          go_wp2_with fail
          go_ret2
          exact OPost.none HE.out (own_made0 HB2.out) (HB2.out.alloc HB2.out.size _)
        | true =>
          have HE := Shut.mk (hway.out.next (by omega) (fun q => by omega) hn)
          rw [hn] at HN
          clear hn
          generalize p.extract g k = x at *
          go_wp2_with fail
          refine (HN.out _).mono ?_
          rintro e w2 ⟨rfl, hb2⟩
          have HB2 := Shut.mk (hbl.out.trans (hb2.mono hbl.out.size))
          have hB2 := HB2.out.size
          have hown2 := hown.out.kept (row := none) ⟨hb2.os, hb2.tape, hb2.output, hb2.size, fun k hk _ => hb2.block k hk⟩ (Classical.em _)
          clear hb2 HN hway hown
          go_wp2_with (at_builtin; refine wpList_append_own _ rfl _ _ 49 rfl w.heap.size 9 i0 (.string ⟨#[]⟩) 1 16 Try.underlying49 hi hz0 hz1 hz2 rfl (by decide) _ _ _ rfl (hown2.alloc _) ⟨w2.heap.size, 0, none⟩ 1 1 [.string x] rfl rfl (cell_one_new _ _ _) ?c2 ?c3 ?c4 ?c5 ?_)
          case c2 => first | rfl | (intro u hu; simp at hu; subst hu; rfl)
          case c3 => unfold maxLen; omega
          case c4 => omega
          case c5 => first | omega | (simp; omega)
          intro v' w4 hown' hgrow _
          rw [tv_snoc] at hown'
          have Q1 : Shut (w4.ownsRow w.heap.size 9 1 v' (done ++ [x]).length (tv (done ++ [x]))) := ⟨by rw [List.length_append, List.length_singleton]; exact hown'⟩
          have Q2 := Shut.mk ((HB2.out.alloc hB2 (.cells #[.string x] 9)).grown hgrow (by simp; omega) (fun j hj => (hown2.lt j hj).1))
          clear hown' hgrow hown2
          go_wp2_with fail
          go_roundw
          case rel => exact ⟨k + 1, k + 1, _, v', rfl, by go_num, by go_num, by omega, by omega, by rw [List.length_append, List.length_singleton]; omega, HE, Q1, Q2⟩
          case measure => simp [intOf]; omega
      · have k1 : ¬ (k : Int) ≤ (p.size : Int) := by omega
        have hfin := hway.out.done hsz HC.out (by omega)
        have hown2 := hown.out
        obtain ⟨a, cap, rfl⟩ : ∃ a cap, v = .slice a done.length cap := by
          rcases hown2.2 with ⟨e, h0⟩ | ⟨g, cap, _, e, _⟩
          · exact ⟨none, 0, by rw [e, h0]⟩
          · exact ⟨_, cap, e⟩
        clear hown2
        by_cases h4 : done.length ≤ 4
        · have HE := Shut.mk (show splitB p = (done, true) by rw [hfin, if_pos h4])
          have h4' : ¬ (4 : Int) < (done.length : Int) := by omega
          clear hfin hway
          go_wp2_with fail
          go_ret2
          exact OPost.some HE.out hown.out hbl.out
        · have HE := Shut.mk (show splitB p = ([], false) by rw [hfin, if_neg h4])
          have h4' : (4 : Int) < (done.length : Int) := by omega
          clear hfin hway
          go_wp2_with fail
          go_ret2
          exact OPost.none HE.out (own_made0 hbl.out) (hbl.out.alloc hbl.out.size _)
/-- A path, name by name. -/
def joinA (L : List ByteArray) : ByteArray := ba ((L.map lb).map (47 :: ·)).flatten
theorem joinA_snoc (L : List ByteArray) (x : ByteArray) : joinA (L ++ [x]) = (joinA L ++ ⟨#[47]⟩) ++ x := by
  apply ByteArray.ext
  unfold joinA
  simp
theorem joinA_size (L : List ByteArray) : (joinA L).size = L.length + tsum L := by
  induction L with
  | nil => rfl
  | cons x L ih =>
    have e : joinA (x :: L) = (⟨#[47]⟩ : ByteArray) ++ x ++ joinA L := by
      apply ByteArray.ext
      unfold joinA
      simp
    rw [e, ByteArray.size_append, ByteArray.size_append, ih]
    simp only [tsum, List.length_cons]
    have : (⟨#[47]⟩ : ByteArray).size = 1 := rfl
    omega
theorem joinB_ne {L : List ByteArray} (h : L ≠ []) : joinB L = joinA L := by
  unfold joinB joinP joinA
  rw [if_neg (fun e => h (List.map_eq_nil_iff.1 e))]
set_option maxHeartbeats 1000000 in
theorem specJoinPath {w : World} {v : Value} {L : List ByteArray} {lo hi : Nat} (hv : SSee w v L lo hi) (hf : TFit L) : Calls Try.prog 66 #[v] w fun e w' => e = .returned (.string (joinB L)) ∧ Below w.heap.size w w' := by
  obtain ⟨a, cap, rfl, hr⟩ := hv
  have hn : L.length + tsum L ≤ 1048576 := hf
  by_cases h0 : L = []
  · subst h0
    clear hr hf hn
    go_enter Try.func66, Try.ntmps66
    go_wp2_with fail
    go_ret
    exact ⟨rfl, Below.refl _ _⟩
  · have HE := Shut.mk (joinB_ne h0)
    have h1 : 0 < L.length := List.length_pos_iff.2 h0
    have h1' : ((L.length : Int) == 0) = false := by rw [beq_eq_false_iff_ne]; omega
    have HR := Shut.mk hr
    clear hr h0 hf
    go_enter Try.func66, Try.ntmps66
    go_wp2_with fail
    go_loopw [3, 4] (fun s i wr => ∃ (k : Nat), i = .int .i64 k ∧ k ≤ L.length ∧ s = .string (joinA (L.take k)) ∧ Shut (Below w.heap.size w wr)) (fun _ i _ => L.length - (intOf i).toNat)
    case atStart => exact ⟨0, rfl, Nat.zero_le _, rfl, ⟨Below.refl _ _⟩⟩
    case round =>
      obtain ⟨k, rfl, hk, rfl, hbl⟩ := hrel
      by_cases hlt : k < L.length
      · obtain ⟨b, off, rfl, lb', hc⟩ := units_at HR.out (by omega)
        have d0 := (hbl.out.cell (p := ⟨b, off + k, none⟩) lb').trans (hc k hlt)
        have k0 : (0 : Int) ≤ (k : Int) := by omega
        have k1 : (k : Int) < (L.length : Int) := by omega
        have hst : joinA (L.take (k + 1)) = (joinA (L.take k) ++ ⟨#[47]⟩) ++ L.getD k ⟨#[]⟩ := by
          rw [List.take_succ_eq_append_getElem hlt, joinA_snoc]
          simp [List.getD, hlt]
        have hz1 := joinA_size (L.take k)
        have hz2 := tsum_le L k
        have hz3 : (L.take k).length ≤ L.length := by rw [List.length_take]; omega
        have hz4 := tsum_take L k hlt
        have hz5 := tsum_le L (k + 1)
        generalize L.getD k ⟨#[]⟩ = x at *
        have hja : (joinA (L.take k)).size + x.size + 1 ≤ 2097152 := by omega
        generalize joinA (L.take k) = J at *
        have HST := Shut.mk hst
        clear hst hc hz1 hz2 hz3 hz4 hz5
        go_wp2_with fail
        go_roundw
        case rel => exact ⟨k + 1, by go_num, by omega, by rw [HST.out], hbl⟩
        case measure => simp [intOf]; omega
      · have hlt' : ¬ (k : Int) < (L.length : Int) := by omega
        have HF : Shut (joinA (L.take k) = joinB L) := ⟨by rw [List.take_of_length_le (by omega), HE.out]⟩
        generalize joinA (L.take k) = J at *
        go_wp2_with fail
        go_ret
        exact ⟨congrArg (fun x => Ending.returned (.string x)) HF.out, hbl.out⟩
end Go.Proofs.Ytfceohoegeebjaa
/- PathC: The walk of the model's ParentPath; what is told of the program's own functions over paths. -/
namespace Go.Proofs.Ytfceohoegeebjaa
open Go.RowKit
open Go.PlainAid (bt)
attribute [local go_sem ↓] Go.wp_at_zero Go.wp_at_succ

def ParPost (p : ByteArray) (w : World) (e : Ending) (w' : World) : Prop := e = .returned (.tuple #[.string (parentB p).1, .string (parentB p).2.1, .bool (parentB p).2.2]) ∧ Below w.heap.size w w'
theorem parent_no {p : ByteArray} {L : List ByteArray} {ok : Bool} (h : splitB p = (L, ok)) (hn : ok = false ∨ L = []) : parentB p = (⟨#[]⟩, ⟨#[]⟩, false) := by
  unfold parentB
  rw [h]
  rw [if_neg (fun q => by
    rcases hn with e | e
    · rw [e] at q; cases q.1
    · exact q.2 e)]
theorem parent_yes {p : ByteArray} {I : List ByteArray} {x : ByteArray} (h : splitB p = (I ++ [x], true)) : parentB p = (joinB I, x, true) := by
  unfold parentB
  rw [h, if_pos ⟨rfl, by simp⟩]
  simp
theorem names_fit {L : List ByteArray} (h : ∀ s ∈ L, nameB s = true) (h4 : L.length ≤ 4) : TFit L := by
  have hs : ∀ s ∈ L, s.size ≤ 8 := fun s hs => ((nameB_iff s).1 (h s hs)).2.2
  have : tsum L ≤ L.length * 8 := by
    clear h h4
    induction L with
    | nil => simp [tsum]
    | cons x L ih =>
      simp only [tsum, List.length_cons, Nat.add_mul, Nat.one_mul]
      have h1 := hs x (by simp)
      have h2 := ih (fun s h => hs s (by simp [h]))
      omega
  unfold TFit
  omega
theorem own_form9 {w : World} {B n : Nat} {t : TypeId} {v : Value} {L : List Value} (h : w.ownsRow B t 1 v n L) : ∃ a cap, v = .slice a n cap := by
  rcases h.2 with ⟨e, h0⟩ | ⟨g, cap, _, e, _⟩
  · exact ⟨none, 0, by rw [e, h0]⟩
  · exact ⟨_, cap, e⟩
theorem own_some9 {w : World} {B n : Nat} {t : TypeId} {v : Value} {L : List Value} (h : w.ownsRow B t 1 v n L) (hp : 0 < n) : ∃ g cap, v = .slice (some ⟨g, 0, none⟩) n cap ∧ n ≤ cap := by
  rcases h.2 with ⟨_, h0⟩ | ⟨g, cap, _, e, _, _, hc, _⟩
  · omega
  · exact ⟨g, cap, e, hc⟩
theorem own_part9 {w : World} {g cap B n k : Nat} {L : List ByteArray} (hown : w.ownsRow B 9 1 (.slice (some ⟨g, 0, none⟩) n cap) n (tv L)) (hk : k ≤ L.length) : SSee w (.slice (some ⟨g, 0, none⟩) k cap) (L.take k) 0 w.heap.size := by
  have hw := own_wcells hown
  refine ⟨_, cap, by rw [List.length_take, Nat.min_eq_left hk], fun _ => ⟨g, 0, rfl, Nat.zero_le _, hw.1, hw.1, fun i v hv => ?_⟩⟩
  rw [Nat.zero_add]
  have hv' : (tv L)[i]? = some v := by
    unfold tv at hv ⊢
    rw [List.map_take] at hv
    rw [List.getElem?_take] at hv
    split at hv
    · exact hv
    · cases hv
  exact (hw.2 i v hv').1
set_option maxRecDepth 100000 in
set_option maxHeartbeats 2000000 in
theorem specParentPath (p : ByteArray) (w : World) (hs : p.size ≤ 1048576) : Calls Try.prog 142 #[.string p] w fun e w' => ParPost p w e w' := by
  have HS := Shut.mk (fun W => specSplitPath p W hs)
  have hnm := splitB_names p
  unfold OPost at HS
  unfold ParPost
  obtain ⟨L, ok, hre⟩ : ∃ L ok, splitB p = (L, ok) := ⟨_, _, rfl⟩
  rw [hre] at HS hnm
  have HN := Shut.mk hnm
  clear hnm
  cases ok with
  | false =>
    rw [parent_no hre (.inl rfl)]
    clear hre
    go_enter Try.func142, Try.ntmps142
    go_wp2_with fail
    refine (HS.out _).mono ?_
    rintro e w1 ⟨v, rfl, ho, hb⟩
    obtain ⟨a, cap, rfl⟩ := own_form9 ho
    have HB := Shut.mk hb
    clear ho hb
    go_wp2_with fail
    go_ret3
    exact ⟨rfl, HB.out⟩
  | true =>
    rcases List.eq_nil_or_concat L with rfl | ⟨I, x, rfl⟩
    · rw [parent_no hre (.inr rfl)]
      clear hre
      go_enter Try.func142, Try.ntmps142
      go_wp2_with fail
      refine (HS.out _).mono ?_
      rintro e w1 ⟨v, rfl, ho, hb⟩
      obtain ⟨a, cap, rfl⟩ := own_form9 ho
      have HB := Shut.mk hb
      clear ho hb
      go_wp2_with fail
      go_ret3
      exact ⟨rfl, HB.out⟩
    · rw [List.concat_eq_append] at *
      rw [parent_yes hre]
      obtain ⟨J, hJ⟩ : ∃ J, J = joinB I := ⟨_, rfl⟩
      have HJE := Shut.mk hJ
      rw [← hJ]
      clear hJ
      have h4 := HN.out.2
      have HF : Shut (TFit I) := ⟨names_fit (fun s h => HN.out.1 s (List.mem_append.2 (.inl h))) (by rw [List.length_append] at h4; omega)⟩
      obtain ⟨m, hm⟩ : ∃ m, m = I.length := ⟨_, rfl⟩
      have HM := Shut.mk hm
      have hm4 : m ≤ 4 := by rw [List.length_append] at h4; omega
      rw [show (I ++ [x], true).1.length = m + 1 by simp [hm]] at HS
      clear hre h4 hm
      go_enter Try.func142, Try.ntmps142
      go_wp2_with fail
      refine (HS.out _).mono ?_
      rintro e w1 ⟨v, rfl, ho, hb⟩
      obtain ⟨g, cap, rfl, hcap⟩ := own_some9 ho (by omega)
      have hw := own_wcells ho
      have d0 : w1.cell? ⟨g, m, none⟩ = some (.string x) := (hw.2 m (.string x) (by
        rw [tv_get _ m (by rw [List.length_append, HM.out]; simp)]
        simp [List.getD, HM.out])).1
      have hg := hw.1
      have hsee := own_part9 (k := m) ho (by rw [List.length_append, HM.out]; simp)
      rw [show (I ++ [x]).take m = I by rw [HM.out]; simp] at hsee
      have HJ := Shut.mk (fun W (hW : Below w1.heap.size w1 W) => specJoinPath (hsee.below hW) HF.out)
      have HB := Shut.mk hb
      have hm0 : (((m + 1 : Nat) : Int) == 0) = false := by rw [beq_eq_false_iff_ne]; omega
      obtain ⟨n, hn⟩ : ∃ n, n = m + 1 := ⟨_, rfl⟩
      rw [← hn] at hcap hm0 ⊢
      have hnm : (n : Int) - 1 = (m : Int) := by omega
      have hmn : (m : Int) < (n : Int) := by omega
      have hmc : (m : Int) ≤ (cap : Int) := by omega
      have hm9 : (0 : Int) ≤ (m : Int) := by omega
      have hwr : IntKind.i64.wrap ((n : Int) - 1) = (m : Int) := by rw [hnm]; exact IntWalk.i64_in _ ⟨by omega, by omega⟩
      rw [← HJE.out] at HJ
      clear ho hb hw hsee hn HN HM hnm
      go_wp2_with fail
      go_region_held3 (fun w' => w'.cell? ⟨g, m, none⟩ = some (.string x))
        (first | assumption | (exact (hb9.cell (p := ⟨g, m, none⟩) hg).trans (by assumption)) | go_keep)
        (first | (go_at_call 66; refine (HJ.out _ (by first | exact Below.refl _ _ | exact Below.drew (Below.refl _ _))).mono ?_; rintro e w9 ⟨rfl, hb9⟩))
      all_goals
        go_wp2_with fail
        go_ret3
        exact ⟨rfl, by first | exact HB.out.trans (hb9.mono HB.out.size) | exact HB.out.trans (((Below.drew (Below.refl w1.heap.size w1)).trans hb9).mono HB.out.size)⟩
end Go.Proofs.Ytfceohoegeebjaa
/- TreN: The walk of the model's FindPath. -/
namespace Go.Proofs.Ytfceohoegeebjaa
open Go.RowKit
attribute [local go_sem ↓] Go.wp_at_zero Go.wp_at_succ

/-- One node looked at, for a name below another one: the first found stays. -/
def kidS (c : Int) (nm : ByteArray) (z : Int) (n : NM) : Int := if n.parent = c ∧ n.name = nm ∧ z = 0 then n.id else z
def kidF (ns : List NM) (c : Int) (nm : ByteArray) : Int := ns.foldl (kidS c nm) 0
theorem kid_take (ns : List NM) (c : Int) (nm : ByteArray) (k : Nat) (h : k < ns.length) : (ns.take (k + 1)).foldl (kidS c nm) 0 = kidS c nm ((ns.take k).foldl (kidS c nm) 0) ns[k] := by
  rw [List.take_succ_eq_append_getElem h, List.foldl_append]
  rfl
/-- Down the names. -/
def findF (ns : List NM) : List ByteArray → Int → Int
  | [], c => c
  | p :: ps, c => if kidF ns c p = 0 then 0 else findF ns ps (kidF ns c p)
theorem findF_step (ns : List NM) (L : List ByteArray) (j : Nat) (c : Int) (h : j < L.length) : findF ns (L.drop j) c = if kidF ns c (L.getD j ⟨#[]⟩) = 0 then 0 else findF ns (L.drop (j + 1)) (kidF ns c (L.getD j ⟨#[]⟩)) := by
  rw [List.drop_eq_getElem_cons h]
  conv => lhs; unfold findF
  simp [List.getD, h]
def findX (T : TM) (p : ByteArray) : Int := if (splitB p).2 = true ∧ 0 ≤ atI T.nodes 1 then findF T.nodes (splitB p).1 1 else 0
theorem own_crow9 {w : World} {B n : Nat} {t : TypeId} {a : Option Addr} {c : Nat} {L : List Value} (h : w.ownsRow B t 1 (.slice a n c) n L) (hn : n = L.length) : CRow w a L := by
  rcases Nat.eq_zero_or_pos n with h0 | hp
  · intro q
    omega
  · obtain ⟨g, cap, e, _⟩ := own_some9 h hp
    have e1 : a = some ⟨g, 0, none⟩ := by injection e
    subst e1
    exact (own_wcells h).crow
attribute [local irreducible] nodeOk treeOk atI
set_option maxRecDepth 100000 in
set_option maxHeartbeats 4000000 in
theorem specFindPath {w : World} {v : Value} {T : TM} {lo hi : Nat} (p : ByteArray) (h : TSee w v T lo hi) (hf : NFit T) (hp : p.size ≤ 1048576) : Calls Try.prog 29 #[v, .string p] w fun e w' => e = .returned (.int .i64 (findX T p)) ∧ Below w.heap.size w w' := by
  have hl : T.nodes.length ≤ 1048576 := by unfold NFit at hf; omega
  have h' := h
  obtain ⟨a, cap, rs, rfl, hr, hm⟩ := h
  obtain ⟨n, hn⟩ : ∃ n, n = rs.length := ⟨_, rfl⟩
  rw [← hn] at h' ⊢
  have HTS := Shut.mk (fun W (hW : Below w.heap.size w W) => specAt 1 (h'.below hW) hl)
  have HSP := Shut.mk (fun W => specSplitPath p W hp)
  have hnm := splitB_names p
  unfold OPost at HSP
  obtain ⟨R, hR⟩ : ∃ R, R = findX T p := ⟨_, rfl⟩
  rw [← hR]
  unfold findX at hR
  obtain ⟨L, ok, hre⟩ : ∃ L ok, splitB p = (L, ok) := ⟨_, _, rfl⟩
  rw [hre] at HSP hnm hR
  obtain ⟨nodes, nx⟩ := T
  dsimp only at hr HTS hR HSP hnm
  subst hr
  have HM := Shut.mk (And.intro hm hn)
  have hn9 : n ≤ 1048576 := by dsimp only at hl; rw [nds_len] at hl; omega
  have hl4 := hnm.2
  have HR := Shut.mk hR
  obtain ⟨l, hle⟩ : ∃ l, l = L.length := ⟨_, rfl⟩
  have HL := Shut.mk hle
  rw [← hle] at HSP hl4
  clear hm hf hR hn h' hl hre hnm hle hp
  cases ok with
  | false =>
    have HE : Shut (R = 0) := ⟨by rw [HR.out, if_neg (by simp)]⟩
    go_enter Try.func29, Try.ntmps29
    go_upto_region 1 with fail
    refine wp_shade (fun W => BX w W a n cap nx) (BX.new w a n cap nx 26) ?_
    intro W hg
    have HG := Shut.mk hg
    clear hg
    go_wp2_with fail
    refine (HSP.out _).mono ?_
    rintro e W1 ⟨sv, rfl, ho, hb1⟩
    obtain ⟨sa, sc, rfl⟩ := own_form9 ho
    have HG1 := Shut.mk (HG.out.below hb1)
    clear hb1 ho
    go_wp2_with fail
    go_ret
    exact ⟨by rw [HE.out]; rfl, HG1.out.bel⟩
  | true =>
    go_enter Try.func29, Try.ntmps29
    go_upto_region 1 with fail
    refine wp_shade (fun W => BX w W a n cap nx) (BX.new w a n cap nx 26) ?_
    intro W hg
    have HG := Shut.mk hg
    clear hg
    go_wp2_with fail
    refine (HSP.out _).mono ?_
    rintro e W1 ⟨sv, rfl, ho, hb1⟩
    obtain ⟨sa, sc, rfl⟩ := own_form9 ho
    have HG1 := Shut.mk (And.intro (HG.out.below hb1) (own_crow9 ho (by rw [tv_len]; exact HL.out)))
    have x0 := (HG1.out.1.box.2 0 _ rfl).1
    have x1 := (HG1.out.1.box.2 1 _ rfl).1
    clear hb1 ho HG HSP
    have HAT := Shut.mk (HTS.out W1 HG1.out.1.bel)
    rcases at_cases (nds rs) 1 with ⟨hat, _⟩ | ⟨i, _, hat, _⟩
    · have HE : Shut (R = 0) := ⟨by rw [HR.out, if_neg (by rw [hat]; simp)]⟩
      rw [hat] at HAT
      clear hat
      go_wp2_with fail
      refine HAT.out.mono ?_
      rintro e W2 ⟨rfl, hb2⟩
      have HG2 := Shut.mk (HG1.out.1.below hb2)
      clear hb2
      go_wp2_with fail
      go_ret
      exact ⟨by rw [HE.out]; rfl, HG2.out.bel⟩
    · have HRF : Shut (R = findF (nds rs) L 1) := ⟨by rw [HR.out, if_pos ⟨trivial, by rw [hat]; omega⟩]⟩
      rw [hat] at HAT
      have i2 : ¬ (i : Int) < 0 := by omega
      clear hat HR
      go_wp2_with fail
      refine HAT.out.mono ?_
      rintro e W2 ⟨rfl, hb2⟩
      have HG2 := Shut.mk (And.intro (HG1.out.1.below hb2) (HG1.out.2.stays hb2))
      clear hb2 x0 x1 HAT HG1
      go_wp2_with fail
      go_loopw [7, 8] (fun cv jv wr => ∃ (j : Nat) (c : Int), cv = .int .i64 c ∧ jv = .int .i64 j ∧ j ≤ l ∧ Shut (R = findF (nds rs) (L.drop j) c) ∧ Shut (BX w wr a n cap nx ∧ CRow wr sa (tv L))) (fun _ jv _ => l - (intOf jv).toNat)
      case atStart => exact ⟨0, 1, rfl, rfl, Nat.zero_le _, ⟨by rw [HRF.out]; rfl⟩, HG2⟩
      case round =>
        clear HG2 HRF
        obtain ⟨j, c, rfl, rfl, hj, HC, HG⟩ := hrel
        by_cases hlt : j < l
        · have hjl : j < L.length := by have := HL.out; omega
          have j0 : (0 : Int) ≤ (j : Int) := by omega
          have j1 : (j : Int) < (l : Int) := by omega
          have HST := Shut.mk (HC.out.trans (findF_step (nds rs) L j c hjl))
          have HPT := Shut.mk (tv_get L j hjl)
          obtain ⟨x, hx⟩ : ∃ x, x = L.getD j ⟨#[]⟩ := ⟨_, rfl⟩
          rw [← hx] at HST HPT
          clear hx
          go_wp2_with fail
          go_loopw [9, 10] (fun zv kv wq => ∃ (k : Nat) (z : Int), zv = .int .i64 z ∧ kv = .int .i64 k ∧ k ≤ n ∧ Shut (z = ((nds rs).take k).foldl (kidS c x) 0) ∧ Shut (BX w wq a n cap nx ∧ CRow wq sa (tv L))) (fun _ kv _ => n - (intOf kv).toNat)
          case atStart => exact ⟨0, 0, rfl, rfl, Nat.zero_le _, ⟨by simp⟩, HG⟩
          case round =>
            clear HG
            obtain ⟨k, z, rfl, rfl, hk, HZ, HQ⟩ := hrel
            have x0 := (HQ.out.1.box.2 0 _ rfl).1
            have x1 := (HQ.out.1.box.2 1 _ rfl).1
            by_cases hkn : k < n
            · have hkr : k < rs.length := by have := HM.out.2; omega
              have hkd : k < (nds rs).length := by rw [nds_len]; exact hkr
              have k0 : (0 : Int) ≤ (k : Int) := by omega
              have k1 : (k : Int) < (n : Int) := by omega
              have HSK := Shut.mk (kid_take (nds rs) c x k hkd)
              rw [← HZ.out, nds_at rs k hkr] at HSK
              obtain ⟨b, off, rfl, lb, hc⟩ := TR.nat (HM.out.1.below HQ.out.1.bel) (by omega)
              have e0 := (hc k hkr).1
              have e1 := (hc k hkr).2.1
              have e2 := (hc k hkr).2.2.1
              obtain ⟨pb, po, rfl, plt, hpc⟩ := HQ.out.2 (by rw [tv_len]; omega)
              have y0 := hpc j _ HPT.out
              have HND : Shut (∀ q, BX w (wr.drewN q) (some ⟨b, off, none⟩) n cap nx ∧ CRow (wr.drewN q) (some ⟨pb, po, none⟩) (tv L)) := ⟨fun q => ⟨HQ.out.1.below ⟨rfl, rfl, rfl, Nat.le_refl _, fun _ _ => rfl⟩, HQ.out.2.stays ⟨rfl, rfl, rfl, Nat.le_refl _, fun _ _ => rfl⟩⟩⟩
              clear hc hpc
              unfold kidS at HSK
              generalize rs[k] = r at *
              by_cases p1 : r.nd.parent = c
              · have p1' : (r.nd.parent == c) = true := by simpa using p1
                by_cases p2 : r.nd.name = x
                · have p2' : (r.nd.name.toList == x.toList) = true := by rw [p2]; simp
                  by_cases p3 : z = 0
                  · have p3' : (z == 0) = true := by simpa using p3
                    have HN : Shut (r.nd.id = ((nds rs).take (k + 1)).foldl (kidS c x) 0) := ⟨by
                      have := HSK.out
                      rw [if_pos ⟨p1, p2, p3⟩] at this
                      exact this.symm⟩
                    clear p1 p2 p3 HSK HZ HQ
                    go_wp2_with fail
                    go_quiet (fail)
                    go_wp2_with fail
                    go_roundw
                    case rel => exact ⟨k + 1, r.nd.id, rfl, by go_num, by omega, HN, ⟨HND.out _⟩⟩
                    case measure => simp [intOf]; omega
                  · have p3' : (z == 0) = false := by simpa using p3
                    have HN : Shut (z = ((nds rs).take (k + 1)).foldl (kidS c x) 0) := ⟨by
                      have := HSK.out
                      rw [if_neg (fun q => p3 q.2.2)] at this
                      exact this.symm⟩
                    clear p1 p2 p3 HSK HZ HQ
                    go_wp2_with fail
                    go_quiet (fail)
                    go_wp2_with fail
                    go_roundw
                    case rel => exact ⟨k + 1, z, rfl, by go_num, by omega, HN, ⟨HND.out _⟩⟩
                    case measure => simp [intOf]; omega
                · have p2' := text_eq p2
                  have HN : Shut (z = ((nds rs).take (k + 1)).foldl (kidS c x) 0) := ⟨by
                    have := HSK.out
                    rw [if_neg (fun q => p2 q.2.1)] at this
                    exact this.symm⟩
                  clear p1 p2 HSK HZ HQ
                  go_wp2_with fail
                  go_quiet (fail)
                  go_wp2_with fail
                  go_roundw
                  case rel => exact ⟨k + 1, z, rfl, by go_num, by omega, HN, ⟨HND.out _⟩⟩
                  case measure => simp [intOf]; omega
              · have p1' : (r.nd.parent == c) = false := by simpa using p1
                have HN : Shut (z = ((nds rs).take (k + 1)).foldl (kidS c x) 0) := ⟨by
                  have := HSK.out
                  rw [if_neg (fun q => p1 q.1)] at this
                  exact this.symm⟩
                clear p1 HSK HZ HQ
                go_wp2_with fail
                go_quiet (fail)
                go_wp2_with fail
                go_roundw
                case rel => exact ⟨k + 1, z, rfl, by go_num, by omega, HN, ⟨HND.out _⟩⟩
                case measure => simp [intOf]; omega
            · have k1 : ¬ (k : Int) < (n : Int) := by omega
              have hz : z = kidF (nds rs) c x := by
                rw [HZ.out, List.take_of_length_le (by rw [nds_len]; have := HM.out.2; omega)]
                rfl
              have hst := HST.out
              rw [← hz] at hst
              clear hz HST
              by_cases p3 : z = 0
              · have p3' : (z == 0) = true := by simpa using p3
                have HE : Shut (R = 0) := ⟨by rw [hst, if_pos p3]⟩
                clear hst p3
                go_wp2_with fail
                go_ret
                exact ⟨by rw [HE.out]; rfl, HQ.out.1.bel⟩
              · have p3' : (z == 0) = false := by simpa using p3
                have HN : Shut (R = findF (nds rs) (L.drop (j + 1)) z) := ⟨by rw [hst, if_neg p3]⟩
                clear hst p3
                go_wp2_with fail
                go_roundw
                case rel => exact ⟨j + 1, z, rfl, by go_num, by omega, HN, HQ⟩
                case measure => simp [intOf]; omega
        · have j1 : ¬ (j : Int) < (l : Int) := by omega
          have HE : Shut (R = c) := ⟨by
            rw [HC.out, List.drop_eq_nil_of_le (by have := HL.out; omega)]
            rfl⟩
          go_wp2_with fail
          go_ret
          exact ⟨by rw [HE.out]; rfl, HG.out.1.bel⟩
end Go.Proofs.Ytfceohoegeebjaa
/- TreJ: The walk of the model's PathOf. -/
namespace Go.Proofs.Ytfceohoegeebjaa
open Go.RowKit
attribute [local go_sem ↓] Go.wp_at_zero Go.wp_at_succ

/-- Up to the first node, names in front of names. -/
def pathF (ns : List NM) : Nat → Int → List ByteArray → ByteArray
  | 0, _, _ => ⟨#[]⟩
  | f + 1, id, L => if id = 1 then joinB L else match ns.findIdx? (fun n => n.id == id) with
    | none => ⟨#[]⟩
    | some k => pathF ns f (ns.getD k default).parent ((ns.getD k default).name :: L)
theorem pathF_one {ns : List NM} {f : Nat} {c : Int} {L : List ByteArray} (h : c = 1) : pathF ns (f + 1) c L = joinB L := by
  conv => lhs; unfold pathF
  rw [if_pos h]
theorem pathF_none {ns : List NM} {f : Nat} {c : Int} {L : List ByteArray} (h0 : c ≠ 1) (h : ns.findIdx? (fun n => n.id == c) = none) : pathF ns (f + 1) c L = ⟨#[]⟩ := by
  conv => lhs; unfold pathF
  rw [if_neg h0, h]
theorem pathF_some {ns : List NM} {f i : Nat} {c : Int} {L : List ByteArray} (h0 : c ≠ 1) (h : ns.findIdx? (fun n => n.id == c) = some i) : pathF ns (f + 1) c L = pathF ns f (ns.getD i default).parent ((ns.getD i default).name :: L) := by
  conv => lhs; unfold pathF
  rw [if_neg h0, h]
def pathX (T : TM) (id : Int) : ByteArray := if treeOk T = true then pathF T.nodes 15 id [] else ⟨#[]⟩
theorem treeOk_first {T : TM} (h : treeOk T = true) : 0 < T.nodes.length ∧ (T.nodes.getD 0 default).id = 1 ∧ atI T.nodes 1 = 0 := by
  have h0 : 0 < T.nodes.length := by
    unfold treeOk at h
    simp only [Bool.and_eq_true, decide_eq_true_eq] at h
    omega
  have h1 := treeOk_node h h0
  unfold nodeOk at h1
  simp only [Bool.and_eq_true] at h1
  have h2 := h1.1.1.2
  rw [if_pos trivial] at h2
  unfold firstOk at h2
  simp only [Bool.and_eq_true] at h2
  have h3 : (T.nodes.getD 0 default).id = 1 := by simpa using h2.1.1.1.1
  refine ⟨h0, h3, ?_⟩
  exact atI_some (i := 0) h0 (by rw [← h3]; simp [List.getD, h0]) (fun j hj => by omega)
theorem treeOk_name {T : TM} (h : treeOk T = true) {i : Nat} (hi : i < T.nodes.length) (h1 : (T.nodes.getD i default).id ≠ 1) : nameB (T.nodes.getD i default).name = true := by
  have hn := treeOk_node h hi
  have h0 : i ≠ 0 := fun e => by rw [e] at h1; exact h1 (treeOk_first h).2.1
  unfold nodeOk at hn
  rw [decide_eq_false h0] at hn
  simp only [Bool.and_eq_true, Bool.false_or] at hn
  exact hn.2.1.1.1.1
theorem names_fit' {L : List ByteArray} (h : ∀ s ∈ L, nameB s = true) (h4 : L.length ≤ 15) : TFit L := by
  have hs : ∀ s ∈ L, s.size ≤ 8 := fun s hs => ((nameB_iff s).1 (h s hs)).2.2
  have : tsum L ≤ L.length * 8 := by
    clear h h4
    induction L with
    | nil => simp [tsum]
    | cons x L ih =>
      simp only [tsum, List.length_cons, Nat.add_mul, Nat.one_mul]
      have h1 := hs x (by simp)
      have h2 := ih (fun s h => hs s (by simp [h]))
      omega
  unfold TFit
  omega
theorem own_all9 {w : World} {g cap B n : Nat} {L : List ByteArray} (h : w.ownsRow B 9 1 (.slice (some ⟨g, 0, none⟩) n cap) n (tv L)) (hn : n = L.length) : SSee w (.slice (some ⟨g, 0, none⟩) n cap) L 0 w.heap.size := by
  have := own_part9 h (k := n) (by omega)
  rw [List.take_of_length_le (by omega)] at this
  exact this
theorem own_one9 (w : World) (v : Value) (e : TypeId) {base : Nat} (hb : base ≤ w.heap.size) : (w.alloc (.cells #[v] e)).ownsRow base e 1 (.slice (some ⟨w.heap.size, 0, none⟩) 1 1) 1 [v] := ⟨by simp, .inr ⟨w.heap.size, 1, #[v], rfl, hb, heap_alloc_new w _, Nat.le_refl _, by decide, rfl, by simp⟩⟩
/-- The names so far, and where they lie. -/
def NSo (w W : World) (a : Option Addr) (n cap : Nat) (nx : Int) (g c l : Nat) (L : List ByteArray) : Prop := BX w W a n cap nx ∧ W.ownsRow (w.heap.size + 1) 9 1 (.slice (some ⟨g, 0, none⟩) l c) l (tv L)
theorem NSo.below {w W W' : World} {a : Option Addr} {n cap g c l : Nat} {nx : Int} {L : List ByteArray} (h : NSo w W a n cap nx g c l L) (hb : Below W.heap.size W W') : NSo w W' a n cap nx g c l L := ⟨h.1.below hb, h.2.kept (row := none) ⟨hb.os, hb.tape, hb.output, hb.size, fun k hk _ => hb.block k hk⟩ (Classical.em _)⟩
attribute [local irreducible] nodeOk treeOk atI joinB nameB
set_option maxRecDepth 100000 in
set_option maxHeartbeats 4000000 in
theorem specPathOf {w : World} {v : Value} {T : TM} {lo hi : Nat} (id : Int) (h : TSee w v T lo hi) (hf : NFit T) : Calls Try.prog 31 #[v, .int .i64 id] w fun e w' => e = .returned (.string (pathX T id)) ∧ Below w.heap.size w w' := by
  have hl : T.nodes.length ≤ 1048576 := by unfold NFit at hf; omega
  have h' := h
  obtain ⟨a, cap, rs, rfl, hr, hm⟩ := h
  obtain ⟨n, hn⟩ : ∃ n, n = rs.length := ⟨_, rfl⟩
  rw [← hn] at h' ⊢
  have HTS := Shut.mk (fun W (hW : Below w.heap.size w W) (c : Int) => specAt c (h'.below hW) hl)
  have HTO := Shut.mk (fun W (hW : Below w.heap.size w W) => specTreeOk (h'.below hW) hf)
  obtain ⟨R, hR⟩ : ∃ R, R = pathX T id := ⟨_, rfl⟩
  rw [← hR]
  unfold pathX at hR
  obtain ⟨nodes, nx⟩ := T
  dsimp only at hr HTS HTO hR
  subst hr
  have HM := Shut.mk (And.intro hm hn)
  have hn9 : n ≤ 1048576 := by dsimp only at hl; rw [nds_len] at hl; omega
  have HR := Shut.mk hR
  clear hm hf hR hn h' hl
  cases hok : treeOk ⟨nds rs, nx⟩ with
  | false =>
    have HE : Shut (R = ⟨#[]⟩) := ⟨by rw [HR.out, if_neg (by rw [hok]; decide)]⟩
    rw [hok] at HTO
    clear hok
    go_enter Try.func31, Try.ntmps31
    go_upto_region 1 with fail
    refine wp_shade (fun W => BX w W a n cap nx) (BX.new w a n cap nx 26) ?_
    intro W hg
    have HG := Shut.mk hg
    have x0 := (hg.box.2 0 _ rfl).1
    have x1 := (hg.box.2 1 _ rfl).1
    clear hg
    go_wp2_with fail
    refine (HTO.out _ HG.out.bel).mono ?_
    rintro e W1 ⟨rfl, hb1⟩
    have HG1 := Shut.mk (HG.out.below hb1)
    clear hb1
    go_wp2_with fail
    go_ret
    exact ⟨by rw [HE.out]; rfl, HG1.out.bel⟩
  | true =>
    have HRR : Shut (R = pathF (nds rs) 15 id []) := ⟨by rw [HR.out, if_pos hok]⟩
    have HOK := Shut.mk hok
    have HFI := Shut.mk (treeOk_first hok).2.2
    rw [hok] at HTO
    obtain ⟨t0, ht0, hty0, hty1, hty2⟩ := info_parts infoTextG
    clear hok HR
    go_enter Try.func31, Try.ntmps31
    go_upto_region 1 with fail
    refine wp_shade (fun W => BX w W a n cap nx) (BX.new w a n cap nx 26) ?_
    intro W hg
    have HG := Shut.mk hg
    have x0 := (hg.box.2 0 _ rfl).1
    have x1 := (hg.box.2 1 _ rfl).1
    clear hg
    go_wp2_with fail
    refine (HTO.out _ HG.out.bel).mono ?_
    rintro e W1 ⟨rfl, hb1⟩
    have HG1 := Shut.mk (HG.out.below hb1)
    clear hb1 x0 x1 HG
    go_upto_region 4 with fail
    refine wp_shade (fun W => NSo w W a n cap nx W1.heap.size 0 0 []) ⟨HG1.out.below ((Below.refl _ _).alloc (Nat.le_refl _) _), World.ownsRow_made W1 #[] 0 (by have := HG1.out.box.1; omega) (by decide) rfl⟩ ?_
    intro W2 hg2
    have HG2 := Shut.mk hg2
    clear hg2 HG1
    go_wp2_with fail
    go_loopw [1, 5, 6] (fun cv lv sv wr => ∃ (s : Nat) (c : Int) (g cp l : Nat) (L : List ByteArray), cv = .int .i64 c ∧ lv = .slice (some ⟨g, 0, none⟩) l cp ∧ sv = .int .i64 s ∧ s ≤ 15 ∧ l ≤ s ∧ Shut (l = L.length) ∧ Shut (∀ x ∈ L, nameB x = true) ∧ Shut (R = pathF (nds rs) (15 - s) c L) ∧ Shut (NSo w wr a n cap nx g cp l L)) (fun _ _ sv _ => 15 - (intOf sv).toNat)
    case atStart => exact ⟨0, id, _, 0, 0, [], rfl, rfl, rfl, by omega, by omega, ⟨rfl⟩, ⟨by simp⟩, ⟨HRR.out⟩, HG2⟩
    case round =>
      clear HG2 HRR
      obtain ⟨s, c, g, cp, l, L, rfl, rfl, rfl, hs15, hls, HLL, HNM, HC, HG⟩ := hrel
      by_cases hlt : s < 15
      · have m1 : (s : Int) ≤ 14 := by omega
        obtain ⟨f, hf⟩ : ∃ f, f = 15 - (s + 1) := ⟨_, rfl⟩
        have hcl' := HC.out
        rw [show 15 - s = f + 1 by omega] at hcl'
        have x0 := (HG.out.1.box.2 0 _ rfl).1
        have x1 := (HG.out.1.box.2 1 _ rfl).1
        by_cases hc1 : c = 1
        · have hc1' : (c == 1) = true := by simpa using hc1
          have HE : Shut (R = joinB L) := ⟨by rw [hcl', pathF_one hc1]⟩
          have HAT := Shut.mk (HTS.out wr HG.out.1.bel 1)
          rw [HFI.out] at HAT
          clear hcl' hf hc1 HC
          go_wp2_with fail
          refine HAT.out.mono ?_
          rintro e W6 ⟨rfl, hb6⟩
          have HG6 := Shut.mk (HG.out.below hb6)
          have HJ := Shut.mk (specJoinPath (own_all9 HG6.out.2 HLL.out) (names_fit' HNM.out (by have := HLL.out; omega)))
          clear hb6 x0 x1 HAT HG
          go_wp2_with fail
          refine HJ.out.mono ?_
          rintro e W7 ⟨rfl, hb7⟩
          have HG7 := Shut.mk (HG6.out.1.below hb7)
          clear hb7
          go_wp2_with fail
          go_ret
          exact ⟨by rw [HE.out]; rfl, HG7.out.bel⟩
        · have hc1' : (c == 1) = false := by simpa using hc1
          have HAT := Shut.mk (HTS.out wr HG.out.1.bel c)
          rcases at_cases (nds rs) c with ⟨hat, hfn⟩ | ⟨i, hi, hat, hfn⟩
          · have HE : Shut (R = ⟨#[]⟩) := ⟨by rw [hcl', pathF_none hc1 hfn]⟩
            rw [hat] at HAT
            clear hcl' hf hc1 HC hat hfn
            go_wp2_with fail
            refine HAT.out.mono ?_
            rintro e W6 ⟨rfl, hb6⟩
            have HG6 := Shut.mk (HG.out.1.below hb6)
            clear hb6
            go_wp2_with fail
            go_ret
            exact ⟨by rw [HE.out]; rfl, HG6.out.bel⟩
          · have hir : i < rs.length := by rw [nds_len] at hi; exact hi
            have hidc : (((nds rs).getD i default).id == c) = true := by
              obtain ⟨h1, h2, _⟩ := List.findIdx?_eq_some_iff_getElem.1 hfn
              have : (nds rs).getD i default = (nds rs)[i] := by simp [List.getD, h1]
              rw [this]; exact h2
            have hnb : nameB rs[i].nd.name = true := by
              have := treeOk_name HOK.out (i := i) hi (by dsimp only; rw [beq_iff_eq.1 hidc]; exact hc1)
              dsimp only at this
              rw [nds_getD hir] at this
              exact this
            have HNX : Shut (R = pathF (nds rs) (15 - (s + 1)) rs[i].nd.parent (rs[i].nd.name :: L)) := ⟨by rw [hcl', pathF_some hc1 hfn, nds_getD hir, ← hf]⟩
            have HNB := Shut.mk hnb
            rw [hat] at HAT
            have i0 : (0 : Int) ≤ (i : Int) := by omega
            have i1 : (i : Int) < (n : Int) := by have := HM.out.2; omega
            have i2 : ¬ (i : Int) < 0 := by omega
            clear hcl' hf hc1 HC hat hfn hidc hnb hi
            go_wp2_with fail
            refine HAT.out.mono ?_
            rintro e W6 ⟨rfl, hb6⟩
            have HG6 := Shut.mk (HG.out.below hb6)
            clear hb6 x0 x1 HAT HG
            have x0 := (HG6.out.1.box.2 0 _ rfl).1
            obtain ⟨b, off, rfl, lb, hc⟩ := TR.nat (HM.out.1.below HG6.out.1.bel) (by omega)
            have HCC := Shut.mk (hc i hir)
            have e2 := (hc i hir).2.2.1
            clear hc
            generalize rs[i] = r at *
            have hs6 : w.heap.size + 1 ≤ W6.heap.size := by have := HG6.out.1.box.1; omega
            have ho6 := HG6.out.2
            go_wp2_with (at_builtin; refine wpList_append_own _ rfl _ _ 49 rfl (w.heap.size + 1) 9 t0 (.string ⟨#[]⟩) 1 16 Try.underlying49 ht0 hty0 hty1 hty2 rfl (by decide) _ 1 [.string r.nd.name] rfl (own_one9 W6 (.string r.nd.name) _ hs6) ⟨g, 0, none⟩ l cp (tv L) rfl ?c0 ?c1 ?c2 ?c3 ?c4 ?c5 ?_)
            case c0 => rw [tv_len, Nat.mul_one]; exact HLL.out.symm
            case c1 =>
              intro j u hu
              rw [show (Addr.add ⟨g, 0, none⟩ j) = ⟨g, j, none⟩ by unfold Addr.add; split <;> simp [*]]
              exact ((own_wcells (ho6.alloc _)).2 j u hu).1
            case c2 => intro u hu; obtain ⟨y, _, rfl⟩ := List.mem_map.1 hu; rfl
            case c3 => unfold maxLen; omega
            case c4 => omega
            case c5 => first | omega | (simp; omega)
            intro v' w10 ho10 hgrow _
            obtain ⟨g', cp', rfl, _⟩ := own_some9 ho10 (by omega)
            have hb10 : Below W6.heap.size W6 w10 := ((Below.refl _ _).alloc (Nat.le_refl _) _).grown hgrow ((Below.refl W6.heap.size W6).alloc (Nat.le_refl _) _).size (fun j hj => ((own_one9 W6 (.string r.nd.name) 9 (Nat.le_refl _)).lt j hj).1)
            have HGZ : Shut (NSo w w10 (some ⟨b, off, none⟩) n cap nx g' cp' (l + 1) (r.nd.name :: L)) := ⟨HG6.out.1.below hb10, by rw [Nat.add_comm l 1]; exact ho10⟩
            rw [Nat.add_comm 1 l]
            have HNM' : Shut (∀ x ∈ r.nd.name :: L, nameB x = true) := ⟨fun x hx => by
              rcases List.mem_cons.1 hx with rfl | h
              · exact HNB.out
              · exact HNM.out x h⟩
            have z0 := (HGZ.out.1.box.2 0 _ rfl).1
            have e1 := (HCC.out.below hb10 lb).2.1
            clear hgrow ho10 ho6 hb10 x0 e2
            go_wp2_with fail
            go_roundw
            case rel => exact ⟨s + 1, r.nd.parent, g', cp', l + 1, r.nd.name :: L, rfl, rfl, by go_num, by omega, by omega, ⟨by rw [List.length_cons, ← HLL.out]⟩, HNM', HNX, HGZ⟩
            case measure => simp [intOf]; omega
      · have hm : s = 15 := by omega
        have HE : Shut (R = ⟨#[]⟩) := ⟨by rw [HC.out, hm]; rfl⟩
        have m1 : ¬ (s : Int) ≤ 14 := by omega
        clear hm HC
        go_wp2_with fail
        go_ret
        exact ⟨by rw [HE.out]; rfl, HG.out.1.bel⟩
end Go.Proofs.Ytfceohoegeebjaa
/- TreK: The walk of the model's KidsOf. -/
namespace Go.Proofs.Ytfceohoegeebjaa
open Go.RowKit
attribute [local go_sem ↓] Go.wp_at_zero Go.wp_at_succ

/-- Not after, as texts are put in order. -/
def leqT (x y : ByteArray) : Bool := Op.bytesLess x.toList y.toList || x.toList == y.toList
/-- A name put among others. -/
def insK (L : List ByteArray) (nm : ByteArray) : List ByteArray := L.filter (fun x => leqT x nm) ++ [nm] ++ L.filter (fun x => !leqT x nm)
theorem insK_len (L : List ByteArray) (nm : ByteArray) : (insK L nm).length = L.length + 1 := by
  unfold insK
  induction L with
  | nil => rfl
  | cons x L ih =>
    cases h : leqT x nm <;> simp [h] at ih ⊢ <;> omega
def kidsS (id : Int) (L : List ByteArray) (n : NM) : List ByteArray := if n.parent = id then insK L n.name else L
def kidsL (ns : List NM) (id : Int) : List ByteArray := ns.foldl (kidsS id) []
theorem kids_take (ns : List NM) (id : Int) (k : Nat) (h : k < ns.length) : kidsL (ns.take (k + 1)) id = kidsS id (kidsL (ns.take k) id) ns[k] := by
  unfold kidsL
  rw [List.take_succ_eq_append_getElem h, List.foldl_append]
  rfl
def kidsX (T : TM) (id : Int) : List ByteArray := if treeOk T = true then kidsL T.nodes id else []
theorem filt_take (p : ByteArray → Bool) (L : List ByteArray) (j : Nat) (h : j < L.length) : (L.take (j + 1)).filter p = (L.take j).filter p ++ (if p (L.getD j ⟨#[]⟩) = true then [L.getD j ⟨#[]⟩] else []) := by
  rw [List.take_succ_eq_append_getElem h, List.filter_append]
  simp [List.getD, h, List.filter]
  cases p L[j] <;> rfl
/-- What an answer of texts is: a row of its own. -/
def KPost (R : List ByteArray) (w : World) (e : Ending) (w' : World) : Prop := ∃ v, e = .returned v ∧ w'.ownsRow w.heap.size 9 1 v R.length (tv R) ∧ Below w.heap.size w w'
/-- A row that is being made, beside what was there. -/
def Mk9 (V W : World) (v : Value) (m : Nat) (L : List ByteArray) : Prop := Below V.heap.size V W ∧ W.ownsRow V.heap.size 9 1 v m (tv L)
theorem Mk9.drew {V W : World} {v : Value} {m : Nat} {L : List ByteArray} (h : Mk9 V W v m L) (q : Nat) : Mk9 V (W.drewN q) v m L := by
  have hb : Below W.heap.size W (W.drewN q) := ⟨rfl, rfl, rfl, Nat.le_refl _, fun _ _ => rfl⟩
  exact ⟨h.1.trans (hb.mono h.1.size), h.2.kept (row := none) ⟨hb.os, hb.tape, hb.output, hb.size, fun k hk _ => hb.block k hk⟩ (Classical.em _)⟩
theorem Mk9.snoc {V W W' : World} {v v' : Value} {m : Nat} {L : List ByteArray} {x : ByteArray} {o : Obj} (h : Mk9 V W v m L) (ho : W'.ownsRow V.heap.size 9 1 v' (m + 1) (tv L ++ [.string x])) (hg : (W.alloc o).grownBy W' v.ownBlock) : Mk9 V W' v' (m + 1) (L ++ [x]) := by
  have hb := h.1.alloc h.1.size o
  refine ⟨hb.grown hg hb.size (fun k hk => (h.2.lt k hk).1), ?_⟩
  have e : tv (L ++ [x]) = tv L ++ [.string x] := by simp [tv]
  rw [e]
  exact ho
attribute [local irreducible] nodeOk treeOk atI joinB nameB leqT
set_option maxRecDepth 100000 in
set_option maxHeartbeats 8000000 in
theorem specKidsOf {w : World} {v : Value} {T : TM} {lo hi : Nat} (id : Int) (h : TSee w v T lo hi) (hf : NFit T) : Calls Try.prog 33 #[v, .int .i64 id] w fun e w' => KPost (kidsX T id) w e w' := by
  have hl : T.nodes.length ≤ 1048576 := by unfold NFit at hf; omega
  have h' := h
  obtain ⟨a, cap, rs, rfl, hr, hm⟩ := h
  obtain ⟨n, hn⟩ : ∃ n, n = rs.length := ⟨_, rfl⟩
  rw [← hn] at h' ⊢
  have HTO := Shut.mk (fun W (hW : Below w.heap.size w W) => specTreeOk (h'.below hW) hf)
  obtain ⟨R, hR⟩ : ∃ R, R = kidsX T id := ⟨_, rfl⟩
  rw [← hR]
  unfold kidsX at hR
  obtain ⟨nodes, nx⟩ := T
  dsimp only at hr HTO hR
  subst hr
  have HM := Shut.mk (And.intro hm hn)
  have hn9 : n ≤ 1048576 := by dsimp only at hl; rw [nds_len] at hl; omega
  have HR := Shut.mk hR
  clear hm hf hR hn h' hl
  cases hok : treeOk ⟨nds rs, nx⟩ with
  | false =>
    have HE : Shut (R = []) := ⟨by rw [HR.out, if_neg (by rw [hok]; decide)]⟩
    rw [hok] at HTO
    clear hok
    go_enter Try.func33, Try.ntmps33
    go_upto_region 1 with fail
    refine wp_shade (fun W => BX w W a n cap nx) (BX.new w a n cap nx 26) ?_
    intro W hg
    have HG := Shut.mk hg
    have x0 := (hg.box.2 0 _ rfl).1
    have x1 := (hg.box.2 1 _ rfl).1
    clear hg
    go_wp2_with fail
    refine (HTO.out _ HG.out.bel).mono ?_
    rintro e W1 ⟨rfl, hb1⟩
    have HG1 := Shut.mk (HG.out.below hb1)
    clear hb1
    go_wp2_with fail
    go_ret
    exact ⟨_, rfl, by rw [HE.out]; exact own_made0 HG1.out.bel, HG1.out.bel.alloc HG1.out.bel.size _⟩
  | true =>
    have HRR : Shut (R = kidsL (nds rs) id) := ⟨by rw [HR.out, if_pos hok]⟩
    rw [hok] at HTO
    obtain ⟨t0, ht0, hty0, hty1, hty2⟩ := info_parts infoTextG
    clear hok HR
    go_enter Try.func33, Try.ntmps33
    go_upto_region 1 with fail
    refine wp_shade (fun W => BX w W a n cap nx) (BX.new w a n cap nx 26) ?_
    intro W hg
    have HG := Shut.mk hg
    have x0 := (hg.box.2 0 _ rfl).1
    have x1 := (hg.box.2 1 _ rfl).1
    clear hg
    go_wp2_with fail
    refine (HTO.out _ HG.out.bel).mono ?_
    rintro e W1 ⟨rfl, hb1⟩
    have HG1 := Shut.mk (HG.out.below hb1)
    clear hb1 x0 x1 HG
    go_upto_region 4 with fail
    refine wp_shade (fun W => NSo w W a n cap nx W1.heap.size 0 0 []) ⟨HG1.out.below ((Below.refl _ _).alloc (Nat.le_refl _) _), World.ownsRow_made W1 #[] 0 (by have := HG1.out.box.1; omega) (by decide) rfl⟩ ?_
    intro W2 hg2
    have HG2 := Shut.mk hg2
    clear hg2 HG1
    go_wp2_with fail
    go_loopw [5, 6] (fun lv kv wr => ∃ (k g cp l : Nat), lv = .slice (some ⟨g, 0, none⟩) l cp ∧ kv = .int .i64 k ∧ k ≤ n ∧ l ≤ k ∧ Shut (l = (kidsL ((nds rs).take k) id).length) ∧ Shut (NSo w wr a n cap nx g cp l (kidsL ((nds rs).take k) id))) (fun _ kv _ => n - (intOf kv).toNat)
    case atStart => exact ⟨0, _, 0, 0, rfl, rfl, Nat.zero_le _, Nat.le_refl _, ⟨rfl⟩, HG2⟩
    case round =>
      clear HG2
      obtain ⟨k, g, cp, l, rfl, rfl, hk, hlk, HLL, HG⟩ := hrel
      have x0 := (HG.out.1.box.2 0 _ rfl).1
      have x1 := (HG.out.1.box.2 1 _ rfl).1
      by_cases hlt : k < n
      · have hkr : k < rs.length := by have := HM.out.2; omega
        have hkd : k < (nds rs).length := by rw [nds_len]; exact hkr
        have k0 : (0 : Int) ≤ (k : Int) := by omega
        have k1 : (k : Int) < (n : Int) := by omega
        have HST := Shut.mk (kids_take (nds rs) id k hkd)
        rw [nds_at rs k hkr] at HST
        obtain ⟨b, off, rfl, lb, hc⟩ := TR.nat (HM.out.1.below HG.out.1.bel) (by omega)
        have HCC := Shut.mk (hc k hkr)
        have e1 := (hc k hkr).2.1
        clear hc
        unfold kidsS at HST
        generalize kidsL ((nds rs).take k) id = L at *
        generalize rs[k] = r at *
        by_cases p1 : r.nd.parent = id
        · have p1' : (r.nd.parent != id) = false := by simpa using p1
          have HNX : Shut (kidsL ((nds rs).take (k + 1)) id = insK L r.nd.name) := ⟨by rw [HST.out, if_pos p1]⟩
          clear p1 HST
          obtain ⟨V, rfl⟩ : ∃ V, V = wr := ⟨_, rfl⟩
          go_upto_region 9 with fail
          refine wp_shade (fun W => Mk9 V W (.slice (some ⟨V.heap.size, 0, none⟩) 0 0) 0 []) ⟨(Below.refl _ _).alloc (Nat.le_refl _) _, World.ownsRow_made V #[] 0 (Nat.le_refl _) (by decide) rfl⟩ ?_
          intro W3 hg3
          have HG3 := Shut.mk hg3
          clear hg3 x0 x1 e1
          go_wp2_with fail
          have HOUT := Shut.mk (own_wcells HG.out.2)
          have hwl : w.heap.size < V.heap.size := HG.out.1.box.1
          go_loopw [7, 8] (fun nv jv wq => ∃ (j m : Nat) (vv : Value), vv = nv ∧ jv = .int .i64 j ∧ j ≤ l ∧ m ≤ j ∧ Shut (m = ((L.take j).filter (fun x => leqT x r.nd.name)).length) ∧ Shut (Mk9 V wq vv m ((L.take j).filter (fun x => leqT x r.nd.name)))) (fun _ jv _ => l - (intOf jv).toNat)
          case atStart => exact ⟨0, 0, _, rfl, rfl, Nat.zero_le _, Nat.le_refl _, ⟨by simp⟩, ⟨by simpa using HG3.out⟩⟩
          case round =>
            clear HG3
            obtain ⟨j, m, nv, rfl, rfl, hj, hmj, HML, HMK⟩ := hrel
            have z0 := (HG.out.1.below HMK.out.1).box.2 0 _ rfl |>.1
            have e2 := (HCC.out.below HMK.out.1 lb).2.2.1
            by_cases hjl : j < l
            · have hjL : j < L.length := by have := HLL.out; omega
              have j0 : (0 : Int) ≤ (j : Int) := by omega
              have j1 : (j : Int) < (l : Int) := by omega
              have y0 : wr.cell? ⟨g, j, none⟩ = some (.string (L.getD j ⟨#[]⟩)) := (HMK.out.1.cell (p := ⟨g, j, none⟩) HOUT.out.1).trans ((HOUT.out.2 j _ (tv_get L j hjL)).1)
              have HY := Shut.mk (HOUT.out.2 j _ (tv_get L j hjL)).1
              have HFT := Shut.mk (filt_take (fun x => leqT x r.nd.name) L j hjL)
              generalize (L.take j).filter (fun x => leqT x r.nd.name) = F at *
              generalize L.getD j ⟨#[]⟩ = x at *
              cases hle : leqT x r.nd.name with
              | false =>
                have hle' : (Op.bytesLess x.toList r.nd.name.toList || x.toList == r.nd.name.toList) = false := by unfold leqT at hle; exact hle
                have HF' : Shut ((L.take (j + 1)).filter (fun x => leqT x r.nd.name) = F) := ⟨by rw [HFT.out]; simp [hle]⟩
                have HD := Shut.mk (fun q => HMK.out.drew q)
                clear hle HFT HMK
                go_wp2_with fail
                go_quiet (fail)
                go_wp2_with fail
                go_roundw
                case rel => exact ⟨j + 1, m, nv, rfl, by go_num, by omega, by omega, ⟨by rw [HF'.out]; exact HML.out⟩, ⟨by rw [HF'.out]; exact HD.out _⟩⟩
                case measure => simp [intOf]; omega
              | true =>
                have hle' : (Op.bytesLess x.toList r.nd.name.toList || x.toList == r.nd.name.toList) = true := by unfold leqT at hle; exact hle
                have HF' : Shut ((L.take (j + 1)).filter (fun x => leqT x r.nd.name) = F ++ [x]) := ⟨by rw [HFT.out]; simp [hle]⟩
                have HD := Shut.mk (fun q => HMK.out.drew q)
                clear hle HFT HMK
                go_wp2_with fail
                go_quiet (fail)
                go_upto_region 13 with fail
                refine wp_shade (fun W => Mk9 V W nv m F) (HD.out _) ?_
                clear z0 e2 y0 HD
                intro W9 hm9
                have HMK9 := Shut.mk hm9
                have ho9 := hm9.2
                have z0 := (HG.out.1.below hm9.1).box.2 0 _ rfl |>.1
                have y0 : W9.cell? ⟨g, j, none⟩ = some (.string x) := (hm9.1.cell (p := ⟨g, j, none⟩) HOUT.out.1).trans HY.out
                clear hm9
                go_wp2_with (at_builtin; refine wpList_append_own _ rfl _ _ 49 rfl V.heap.size 9 t0 (.string ⟨#[]⟩) 1 16 Try.underlying49 ht0 hty0 hty1 hty2 rfl (by decide) _ _ _ rfl (ho9.alloc _) ⟨W9.heap.size, 0, none⟩ 1 1 [.string x] rfl rfl (cell_one_new _ _ _) ?c2 ?c3 ?c4 ?c5 ?_)
                case c2 => first | rfl | (intro u hu; simp at hu; subst hu; rfl)
                case c3 => unfold maxLen; omega
                case c4 => omega
                case c5 => first | exact HMK9.out.1.size | (have := HMK9.out.1.size; first | omega | (simp; omega))
                intro v' w10 ho10 hgrow _
                have HN9 := Shut.mk (HMK9.out.snoc ho10 hgrow)
                clear hgrow ho10 ho9 HMK9 z0 y0
                go_wp2_with fail
                go_roundw
                case rel => exact ⟨j + 1, m + 1, v', rfl, by go_num, by omega, by omega, ⟨by rw [HF'.out, HML.out, List.length_append, List.length_singleton]⟩, ⟨by rw [HF'.out]; exact HN9.out⟩⟩
                case measure => simp [intOf]; omega
            · have j1 : ¬ (j : Int) < (l : Int) := by omega
              have hall : L.take j = L := List.take_of_length_le (by have := HLL.out; omega)
              rw [hall] at HML HMK
              clear hall
              have hml : m ≤ l := by omega
              obtain ⟨F1, hF1⟩ : ∃ F1, F1 = L.filter (fun x => leqT x r.nd.name) := ⟨_, rfl⟩
              rw [← hF1] at HML HMK
              have HF1 := Shut.mk hF1
              obtain ⟨W9, rfl⟩ : ∃ W9, W9 = wr := ⟨_, rfl⟩
              have HMK9 := HMK
              have ho9 := HMK.out.2
              clear hF1 HMK
              go_wp2_with (at_builtin; refine wpList_append_own _ rfl _ _ 49 rfl V.heap.size 9 t0 (.string ⟨#[]⟩) 1 16 Try.underlying49 ht0 hty0 hty1 hty2 rfl (by decide) _ _ _ rfl (ho9.alloc _) ⟨W9.heap.size, 0, none⟩ 1 1 [.string r.nd.name] rfl rfl (cell_one_new _ _ _) ?c2 ?c3 ?c4 ?c5 ?_)
              case c2 => first | rfl | (intro u hu; simp at hu; subst hu; rfl)
              case c3 => unfold maxLen; omega
              case c4 => omega
              case c5 => first | exact HMK9.out.1.size | (have := HMK9.out.1.size; first | omega | (simp; omega))
              intro v' w10 ho10 hgrow _
              have HN9 := Shut.mk (HMK9.out.snoc ho10 hgrow)
              clear hgrow ho10 ho9 HMK9 z0 e2
              obtain ⟨q, hq⟩ : ∃ q, q = m + 1 := ⟨_, rfl⟩
              have HQL : Shut (q = (F1 ++ [r.nd.name]).length) := ⟨by rw [hq, List.length_append, List.length_singleton, HML.out]⟩
              rw [← hq] at HN9
              have hql : q ≤ l + 1 := by omega
              clear hq HML hml hmj hj j1
              go_wp2_with fail
              go_loopw [7, 9] (fun nv jv wq => ∃ (j m : Nat) (vv : Value), vv = nv ∧ jv = .int .i64 j ∧ j ≤ l ∧ m ≤ q + j ∧ Shut (m = (F1 ++ [r.nd.name] ++ (L.take j).filter (fun x => !leqT x r.nd.name)).length) ∧ Shut (Mk9 V wq vv m (F1 ++ [r.nd.name] ++ (L.take j).filter (fun x => !leqT x r.nd.name)))) (fun _ jv _ => l - (intOf jv).toNat)
              case atStart => exact ⟨0, q, _, rfl, rfl, Nat.zero_le _, Nat.le_refl _, ⟨by rw [HQL.out]; simp⟩, ⟨by simpa using HN9.out⟩⟩
              case round =>
                clear HN9
                obtain ⟨j, m, nv, rfl, rfl, hj, hmj, HML, HMK⟩ := hrel
                have z0 := (HG.out.1.below HMK.out.1).box.2 0 _ rfl |>.1
                have e2 := (HCC.out.below HMK.out.1 lb).2.2.1
                by_cases hjl : j < l
                · have hjL : j < L.length := by have := HLL.out; omega
                  have j0 : (0 : Int) ≤ (j : Int) := by omega
                  have j1 : (j : Int) < (l : Int) := by omega
                  have y0 : wr.cell? ⟨g, j, none⟩ = some (.string (L.getD j ⟨#[]⟩)) := (HMK.out.1.cell (p := ⟨g, j, none⟩) HOUT.out.1).trans ((HOUT.out.2 j _ (tv_get L j hjL)).1)
                  have HY := Shut.mk (HOUT.out.2 j _ (tv_get L j hjL)).1
                  have hft := filt_take (fun x => !leqT x r.nd.name) L j hjL
                  have HFT : Shut (F1 ++ [r.nd.name] ++ (L.take (j + 1)).filter (fun x => !leqT x r.nd.name) = (F1 ++ [r.nd.name] ++ (L.take j).filter (fun x => !leqT x r.nd.name)) ++ (if (!leqT (L.getD j ⟨#[]⟩) r.nd.name) = true then [L.getD j ⟨#[]⟩] else [])) := ⟨by rw [hft]; simp only [List.append_assoc]⟩
                  clear hft
                  generalize F1 ++ [r.nd.name] ++ (L.take j).filter (fun x => !leqT x r.nd.name) = F at *
                  generalize L.getD j ⟨#[]⟩ = x at *
                  cases hle : leqT x r.nd.name with
                  | true =>
                    have hle' : (Op.bytesLess x.toList r.nd.name.toList || x.toList == r.nd.name.toList) = true := by unfold leqT at hle; exact hle
                    have HF' : Shut (F1 ++ [r.nd.name] ++ (L.take (j + 1)).filter (fun x => !leqT x r.nd.name) = F) := ⟨by rw [HFT.out, hle]; simp⟩
                    have HD := Shut.mk (fun q => HMK.out.drew q)
                    clear hle HFT HMK
                    go_wp2_with fail
                    go_quiet (fail)
                    go_wp2_with fail
                    go_roundw
                    case rel => exact ⟨j + 1, m, nv, rfl, by go_num, by omega, by omega, ⟨by rw [HF'.out]; exact HML.out⟩, ⟨by rw [HF'.out]; exact HD.out _⟩⟩
                    case measure => simp [intOf]; omega
                  | false =>
                    have hle' : (Op.bytesLess x.toList r.nd.name.toList || x.toList == r.nd.name.toList) = false := by unfold leqT at hle; exact hle
                    have HF' : Shut (F1 ++ [r.nd.name] ++ (L.take (j + 1)).filter (fun x => !leqT x r.nd.name) = F ++ [x]) := ⟨by rw [HFT.out, hle]; simp⟩
                    have HD := Shut.mk (fun q => HMK.out.drew q)
                    clear hle HFT HMK
                    go_wp2_with fail
                    go_quiet (fail)
                    go_upto_region 19 with fail
                    refine wp_shade (fun W => Mk9 V W nv m F) (HD.out _) ?_
                    clear z0 e2 y0 HD
                    intro W9 hm9
                    have HMK9 := Shut.mk hm9
                    have ho9 := hm9.2
                    have z0 := (HG.out.1.below hm9.1).box.2 0 _ rfl |>.1
                    have y0 : W9.cell? ⟨g, j, none⟩ = some (.string x) := (hm9.1.cell (p := ⟨g, j, none⟩) HOUT.out.1).trans HY.out
                    clear hm9
                    go_wp2_with (at_builtin; refine wpList_append_own _ rfl _ _ 49 rfl V.heap.size 9 t0 (.string ⟨#[]⟩) 1 16 Try.underlying49 ht0 hty0 hty1 hty2 rfl (by decide) _ _ _ rfl (ho9.alloc _) ⟨W9.heap.size, 0, none⟩ 1 1 [.string x] rfl rfl (cell_one_new _ _ _) ?c2 ?c3 ?c4 ?c5 ?_)
                    case c2 => first | rfl | (intro u hu; simp at hu; subst hu; rfl)
                    case c3 => unfold maxLen; omega
                    case c4 => omega
                    case c5 => first | exact HMK9.out.1.size | (have := HMK9.out.1.size; first | omega | (simp; omega))
                    intro v' w10 ho10 hgrow _
                    have HN9 := Shut.mk (HMK9.out.snoc ho10 hgrow)
                    clear hgrow ho10 ho9 HMK9 z0 y0
                    go_wp2_with fail
                    go_roundw
                    case rel => exact ⟨j + 1, m + 1, v', rfl, by go_num, by omega, by omega, ⟨by rw [HF'.out, HML.out, List.length_append, List.length_singleton]⟩, ⟨by rw [HF'.out]; exact HN9.out⟩⟩
                    case measure => simp [intOf]; omega
                · have j1 : ¬ (j : Int) < (l : Int) := by omega
                  have hall : L.take j = L := List.take_of_length_le (by have := HLL.out; omega)
                  rw [hall] at HML HMK
                  have hin : F1 ++ [r.nd.name] ++ L.filter (fun x => !leqT x r.nd.name) = kidsL ((nds rs).take (k + 1)) id := by rw [HNX.out, HF1.out]; rfl
                  rw [hin] at HML HMK
                  have hml : m = l + 1 := by rw [HML.out, HNX.out, insK_len, ← HLL.out]
                  obtain ⟨g', cp', rfl, _⟩ := own_some9 HMK.out.2 (by omega)
                  have HGZ : Shut (NSo w wr (some ⟨b, off, none⟩) n cap nx g' cp' m (kidsL ((nds rs).take (k + 1)) id)) := ⟨HG.out.1.below HMK.out.1, own_wider9 HMK.out.2 (by omega)⟩
                  clear hall hin HMK
                  go_wp2_with fail
                  go_roundw
                  case rel => exact ⟨k + 1, g', cp', m, rfl, by go_num, by omega, by omega, HML, HGZ⟩
                  case measure => simp [intOf]; omega
        · have p1' : (r.nd.parent != id) = true := by simpa using p1
          have HNX : Shut (kidsL ((nds rs).take (k + 1)) id = L) := ⟨by rw [HST.out, if_neg p1]⟩
          clear p1 HST
          go_wp2_with fail
          go_roundw
          case rel => exact ⟨k + 1, g, cp, l, rfl, by go_num, by omega, by omega, ⟨by rw [HNX.out]; exact HLL.out⟩, ⟨by rw [HNX.out]; exact HG.out⟩⟩
          case measure => simp [intOf]; omega
      · have k1 : ¬ (k : Int) < (n : Int) := by omega
        have HE : Shut (kidsL ((nds rs).take k) id = R) := ⟨by rw [HRR.out, List.take_of_length_le (by rw [nds_len]; have := HM.out.2; omega)]⟩
        rw [HE.out] at HLL HG
        clear HE
        go_wp2_with fail
        go_ret
        exact ⟨_, rfl, by rw [← HLL.out]; exact own_wider9 HG.out.2 (by omega), HG.out.1.bel⟩
end Go.Proofs.Ytfceohoegeebjaa
