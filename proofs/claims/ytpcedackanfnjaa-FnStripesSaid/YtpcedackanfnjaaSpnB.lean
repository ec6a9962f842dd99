/- Rows of numbers as values; the walk of the model's Spans. -/
import Derived.Test.YtpcedackanfnjaaSpnA
import Derived.Test.YtpcedackanfnjaaNestA
import Derived.Deep.AppendLies
namespace Go.Proofs.Ytpcedackanfnjaa
open Go.RowKit
attribute [local go_sem ↓] Go.wp_at_zero Go.wp_at_succ

/-- A value that is these numbers, in memory of its own. -/
def IAns (w : World) (v : Value) (xs : List Int) (lo hi : Nat) : Prop := ∃ (a : Option Addr) (cap : Nat), v = .slice a xs.length cap ∧ xs.length ≤ cap ∧ (xs = [] ∨ ∃ g, a = some ⟨g, 0, none⟩ ∧ lo ≤ g ∧ g < hi ∧ WCells w g (ics xs))
theorem IAns.empty (w : World) (a : Option Addr) (cap lo hi : Nat) : IAns w (.slice a 0 cap) [] lo hi := ⟨a, cap, rfl, Nat.zero_le _, .inl rfl⟩
theorem IAns.crow {w : World} {v : Value} {xs : List Int} {lo hi : Nat} (h : IAns w v xs lo hi) : ∃ a cap, v = .slice a xs.length cap ∧ CRow w a (ics xs) := by
  obtain ⟨a, cap, e, _, q⟩ := h
  refine ⟨a, cap, e, ?_⟩
  rcases q with rfl | ⟨g, rfl, _, _, q⟩
  · intro h; simp [ics] at h
  · exact q.crow
theorem IAns.turned {w w' : World} {v : Value} {xs : List Int} {lo hi lo' hi' : Nat} (h : IAns w v xs lo hi) (t : Turned w w' lo' hi') (hd : hi ≤ lo' ∨ hi' ≤ lo) : IAns w' v xs lo hi := by
  obtain ⟨a, cap, e, hc, q⟩ := h
  refine ⟨a, cap, e, hc, ?_⟩
  rcases q with rfl | ⟨g, rfl, h1, h2, h3⟩
  · exact .inl rfl
  · exact .inr ⟨g, rfl, h1, h2, h3.turned t (by omega)⟩
theorem IAns.below {w w' : World} {v : Value} {xs : List Int} {lo hi : Nat} (h : IAns w v xs lo hi) (hb : Below w.heap.size w w') : IAns w' v xs lo hi := by
  obtain ⟨a, cap, e, hc, q⟩ := h
  refine ⟨a, cap, e, hc, ?_⟩
  rcases q with rfl | ⟨g, rfl, h1, h2, h3⟩
  · exact .inl rfl
  · exact .inr ⟨g, rfl, h1, h2, h3.below hb h3.1⟩
def IPost (xs : List Int) (w : World) (e : Ending) (w' : World) : Prop := ∃ v, e = .returned v ∧ IAns w' v xs w.heap.size w'.heap.size ∧ Below w.heap.size w w'
theorem own_ians {w w' : World} {v : Value} {xs : List Int} {n : Nat} (hn : xs.length = n) (h : w'.ownsRow w.heap.size 3 1 v n (ics xs)) : IAns w' v xs w.heap.size w'.heap.size := by
  have hlt := h.lt
  have hown := h
  subst hn
  obtain ⟨_, ⟨rfl, h0⟩ | ⟨g, cap, cur, rfl, hB, hcur, hn, _⟩⟩ := h
  · have : xs = [] := List.eq_nil_of_length_eq_zero h0
    subst this
    exact IAns.empty _ _ _ _ _
  · exact ⟨_, cap, rfl, hn, .inr ⟨g, rfl, hB, (hlt g rfl).2, own_wcells hown⟩⟩
/-- The lengths of the groups of so many bytes. -/
def spanL (S n : Nat) : List Int := List.replicate ((n - 1) / S) (S : Int) ++ [((n - (n - 1) / S * S : Nat) : Int)]
def spansX (s n : Int) : List Int := if schOk s = true ∧ 1 ≤ n ∧ n ≤ 1000 then spanL (groupN s) n.toNat else []
theorem spansX_no {s n : Int} (h : ¬ (schOk s = true ∧ 1 ≤ n ∧ n ≤ 1000)) : spansX s n = [] := if_neg h
theorem group_pos {s : Int} (h : schOk s = true) : 16 ≤ groupN s := by have := (sch_bounds h).1; unfold groupN; omega
theorem group_zero {s : Int} (h : schOk s = false) : groupN s = 0 := by unfold groupN; rw [(sch_zero h).1]
theorem span_last {S n j : Nat} (hS : 0 < S) (h1 : j * S < n) (h2 : n ≤ j * S + S) : (n - 1) / S = j := by
  have e : n - 1 = (n - 1 - j * S) + j * S := by omega
  rw [e, Nat.add_mul_div_right _ _ hS, Nat.div_eq_of_lt (by omega), Nat.zero_add]
set_option maxRecDepth 100000 in
set_option maxHeartbeats 2000000 in
theorem specSpans (s n : Int) (w : World) : Calls Try.prog 30 #[.int .i64 s, .int .i64 n] w fun e w' => IPost (spansX s n) w e w' := by
  obtain ⟨i1, hi1, hy0, hy1, hy2⟩ := info_parts infoIntG
  have HG := Shut.mk (fun W => specGroupSize s W)
  obtain ⟨bn, hbn⟩ : ∃ r, (decide ((1 : Int) ≤ n) && decide (n ≤ 1000)) = r := ⟨_, rfl⟩
  have hin := in_bool hbn
  have HIN := Shut.mk (fun W => isIn n 1 1000 W bn hbn)
  have hg32 := groupN_bounds s
  have hal : Below w.heap.size w (w.alloc (.cells #[] 3)) := (Below.refl _ _).alloc (Nat.le_refl _) _
  have HAL := Shut.mk hal
  have HO : Shut ((w.alloc (.cells #[] 3)).ownsRow w.heap.size 3 1 (.slice (some ⟨w.heap.size, 0, none⟩) 0 0) 0 []) := ⟨World.ownsRow_made w #[] 0 (Nat.le_refl _) (by decide) rfl⟩
  clear hal hbn
  cases h : schOk s with
  | false =>
    rw [spansX_no (fun q => by rw [h] at q; cases q.1)]
    rw [group_zero h] at HG
    clear h hin hg32
    go_enter Try.func30, Try.ntmps30
    go_wp2_with fail
    refine (HG.out _).mono ?_
    rintro e w1 ⟨rfl, rfl⟩
    go_wp2_with fail
    go_ret
    exact ⟨_, rfl, IAns.empty _ _ _ _ _, HAL.out⟩
  | true =>
    have h16 := group_pos h
    cases bn with
    | false =>
      rw [spansX_no (fun q => by have := hin.2 q.2; cases this)]
      clear h hin
      generalize groupN s = S at *
      have hS0 : ((S : Int) == 0) = false := by rw [beq_eq_false_iff_ne]; omega
      go_enter Try.func30, Try.ntmps30
      go_wp2_with fail
      refine (HG.out _).mono ?_
      rintro e w1 ⟨rfl, rfl⟩
      go_wp2_with fail
      refine (HIN.out _).mono ?_
      rintro e w2 ⟨rfl, rfl⟩
      go_wp2_with fail
      go_ret
      exact ⟨_, rfl, IAns.empty _ _ _ _ _, HAL.out⟩
    | true =>
      obtain ⟨n1, n2⟩ := hin.1 rfl
      obtain ⟨N, rfl⟩ := Int.eq_ofNat_of_zero_le (show 0 ≤ n by omega)
      have e0 : spansX s (N : Int) = spanL (groupN s) N := by unfold spansX; rw [if_pos ⟨h, n1, n2⟩]; rfl
      rw [e0]
      clear h hin e0
      generalize groupN s = S at *
      have hS0 : ((S : Int) == 0) = false := by rw [beq_eq_false_iff_ne]; omega
      go_enter Try.func30, Try.ntmps30
      go_wp2_with fail
      refine (HG.out _).mono ?_
      rintro e w1 ⟨rfl, hw1⟩
      obtain rfl : w.alloc (.cells #[] 3) = w1 := hw1.symm
      clear hw1
      go_wp2_with fail
      refine (HIN.out _).mono ?_
      rintro e w2 ⟨rfl, hw2⟩
      obtain rfl : w.alloc (.cells #[] 3) = w2 := hw2.symm
      clear hw2
      go_wp2_with fail
      go_loopw [1, 5] (fun nn v wr => ∃ (j r : Nat) (vv : Value), vv = v ∧ nn = .int .i64 (r : Nat) ∧ 1 ≤ r ∧ r ≤ 1000 ∧ Shut (j * S + r = N) ∧ j ≤ 1000 ∧ Shut (wr.ownsRow w.heap.size 3 1 vv j (ics (List.replicate j (S : Int)))) ∧ Shut (Below w.heap.size w wr)) (fun nn _ _ => (intOf nn).toNat)
      case atStart => exact ⟨0, N, _, rfl, rfl, by omega, by omega, ⟨by omega⟩, by omega, HO, HAL⟩
      case round =>
        clear HO HAL
        obtain ⟨j, r, v, rfl, rfl, hr1, hr2, hjr, hj, hown, hb⟩ := hrel
        obtain ⟨wo, rfl⟩ : ∃ wo, wo = wr := ⟨_, rfl⟩
        have hso := hb.out.size
        have hown3 := hown.out
        by_cases hlt : S < r
        · have hlt' : (S : Int) < (r : Int) := by omega
          have hj2 : j + 1 ≤ 1000 := by
            have h1 := hjr.out
            have h2 : j ≤ j * S := Nat.le_mul_of_pos_right j (by omega)
            omega
          go_wp2_with (at_builtin; refine wpList_append_own _ rfl _ _ 24 rfl w.heap.size 3 i1 (.int .i64 0) 1 8 Try.underlying24 hi1 hy0 hy1 hy2 rfl (by decide) _ _ _ rfl (hown3.alloc _) ⟨wo.heap.size, 0, none⟩ 1 1 [.int .i64 (S : Int)] rfl rfl (cell_one_new _ _ _) ?c2 ?c3 ?c4 ?c5 ?_)
          case c2 => first | rfl | (intro u hu; simp at hu; subst hu; rfl)
          case c3 => unfold maxLen; omega
          case c4 => omega
          case c5 => first | omega | (simp; omega)
          intro v' w4 hown' hgrow _
          have Q1 : Shut (w4.ownsRow w.heap.size 3 1 v' (j + 1) (ics (List.replicate (j + 1) (S : Int)))) := ⟨by
            have e : ics (List.replicate (j + 1) (S : Int)) = ics (List.replicate j (S : Int)) ++ [.int .i64 (S : Int)] := by rw [List.replicate_succ']; simp [ics]
            rw [e]; exact hown'⟩
          have Q2 := Shut.mk ((hb.out.alloc hso (.cells #[.int .i64 (S : Int)] 3)).grown hgrow (by simp; omega) (fun j hj => (hown3.lt j hj).1))
          have Q3 : Shut ((j + 1) * S + (r - S) = N) := ⟨by rw [Nat.add_mul]; have := hjr.out; omega⟩
          have hsub : (r : Int) - (S : Int) = ((r - S : Nat) : Int) := by omega
          clear hown' hgrow hown3 hb hown hjr
          go_wp2_with fail
          exact ⟨⟨j + 1, r - S, v', rfl, by rw [← hsub], by omega, by omega, Q3, hj2, Q1, Q2⟩, by simp [intOf]; omega⟩
        · have hlt' : ¬ (S : Int) < (r : Int) := by omega
          have hle : (r : Int) ≤ (S : Int) := by omega
          have HSP : Shut (spanL S N = List.replicate j (S : Int) ++ [(r : Int)]) := ⟨by
            have h1 := hjr.out
            have e := span_last (S := S) (n := N) (j := j) (by omega) (by omega) (by omega)
            unfold spanL
            rw [e]
            congr 3
            omega⟩
          go_wp2_with (at_builtin; refine wpList_append_own _ rfl _ _ 24 rfl w.heap.size 3 i1 (.int .i64 0) 1 8 Try.underlying24 hi1 hy0 hy1 hy2 rfl (by decide) _ _ _ rfl (hown3.alloc _) ⟨wo.heap.size, 0, none⟩ 1 1 [.int .i64 (r : Int)] rfl rfl (cell_one_new _ _ _) ?c2 ?c3 ?c4 ?c5 ?_)
          case c2 => first | rfl | (intro u hu; simp at hu; subst hu; rfl)
          case c3 => unfold maxLen; omega
          case c4 => omega
          case c5 => first | omega | (simp; omega)
          intro v' w4 hown' hgrow _
          have Q1 : Shut (IAns w4 v' (spanL S N) w.heap.size w4.heap.size) := ⟨by
            rw [HSP.out]
            refine own_ians (n := j + 1) (by simp) ?_
            have e : ics (List.replicate j (S : Int) ++ [(r : Int)]) = ics (List.replicate j (S : Int)) ++ [.int .i64 (r : Int)] := by simp [ics]
            rw [e]; exact hown'⟩
          have Q2 := Shut.mk ((hb.out.alloc hso (.cells #[.int .i64 (r : Int)] 3)).grown hgrow (by simp; omega) (fun j hj => (hown3.lt j hj).1))
          clear hown' hgrow hown3 hb hown
          go_wp2_with fail
          go_ret
          exact ⟨v', rfl, Q1.out, Q2.out⟩
end Go.Proofs.Ytpcedackanfnjaa
