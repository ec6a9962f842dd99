/- The program's own beside and from. -/
import Derived.Test.YtdpcndbfbmphjaaPrK
namespace Go.Proofs.Ytdpcndbfbmphjaa
open Go.RowKit
open W (B8 Mx)
attribute [local go_sem ↓] Go.wp_at_zero Go.wp_at_succ
attribute [local irreducible] W.gm W.xs W.mm W.gi matOk

theorem news_u {w : World} {b o n : Nat} {r : List B8} (hl : r.length = n) (h : ∀ j, j < n → w.cell? ⟨b, o + j, none⟩ = some (.int .u8 ((r.getD j 0#8).toNat : Int))) : ∀ j u, (ucs r)[j]? = some u → w.cell? ((⟨b, o, none⟩ : Addr).add j) = some u := by
  intro j u hj
  have hj' : j < r.length := by have := (List.getElem?_eq_some_iff.1 hj).1; rwa [ucs_len] at this
  rw [ucs_get r j hj'] at hj
  cases hj
  have e : (⟨b, o, none⟩ : Addr).add j = ⟨b, o + j, none⟩ := by cases j <;> simp [Addr.add]
  rw [e]; exact h j (by omega)
theorem one_u (r : List B8) : ∀ u ∈ ucs r, u.oneCell' = true := fun u hu => by
  obtain ⟨x, _, rfl⟩ := List.mem_map.1 hu
  rfl
set_option maxRecDepth 100000 in
set_option maxHeartbeats 4000000 in
theorem implBeside (K L : List (List B8)) (b1 o1 c1 b2 o2 c2 n : Nat) (w : World) (h1 : KAt w b1 o1 K n) (h2 : KAt w b2 o2 L n) (hK : K.length = n) (hL : L.length = n) (rK : ∀ i, i < n → (K.getD i []).length = n) (rL : ∀ i, i < n → (L.getD i []).length = n) (hn1 : 1 ≤ n) (hn8 : n ≤ 8) :
    Calls Try.prog 67 #[.slice (some ⟨b1, o1, none⟩) n c1, .slice (some ⟨b2, o2, none⟩) n c2] w fun e w' => KPost (besideU K L) w e w' := by
  obtain ⟨i0, hi0, hz0, hz1, hz2⟩ := info_parts infoRowB
  obtain ⟨i1, hi1, hy0, hy1, hy2⟩ := info_parts infoB
  have H1 := Shut.mk h1
  have H2 := Shut.mk h2
  have HK := Shut.mk (And.intro hK hL)
  have HR := Shut.mk (And.intro rK rL)
  clear h1 h2 hK hL rK rL
  go_enter Try.func67, Try.ntmps67
  go_wp2_with fail
  go_loopw [5, 10] (fun v i wr => ∃ (ts : List KS) (vv : Value), vv = v ∧ i = .int .i64 (ts.length : Nat) ∧ ts.length ≤ n ∧ Shut (kws ts = (besideU K L).take ts.length) ∧ Shut (KI w wr vv ts)) (fun _ i _ => n - (intOf i).toNat)
  case atStart => exact ⟨[], _, rfl, rfl, by simp, ⟨rfl⟩, ⟨KI.start w (World.ownsRow_nil _ _ _ _) (Below.refl _ _)⟩⟩
  case round =>
    obtain ⟨ts, v, rfl, rfl, hk, hrw, hbi⟩ := hrel
    obtain ⟨wo, rfl⟩ : ∃ wo, wo = wr := ⟨_, rfl⟩
    obtain ⟨i, hie⟩ : ∃ i, i = ts.length := ⟨_, rfl⟩
    have HI : Hid (i = ts.length) := hie
    rw [← hie] at hk ⊢
    clear hie
    by_cases hlt : i < n
    · have hlt' : (i : Int) < (n : Int) := by omega
      have k0 : (0 : Int) ≤ (i : Int) := by omega
      have hsz := hbi.out.bel.size
      have hbw := hbi.out.bel
      obtain ⟨lb1, q1⟩ := H1.out.below hbw
      obtain ⟨lb2, q2⟩ := H2.out.below hbw
      obtain ⟨b1', o1', cp1, l1', d1, e1⟩ := q1 i (by rw [HK.out.1]; exact hlt)
      obtain ⟨b2', o2', cp2, l2', d2, e2⟩ := q2 i (by rw [HK.out.2]; exact hlt)
      have hl1 := HR.out.1 i hlt
      have hl2 := HR.out.2 i hlt
      have HST := Shut.mk (show (besideU K L).take (i + 1) = (besideU K L).take i ++ [K.getD i [] ++ L.getD i []] by
        have hi2 : i < (besideU K L).length := by rw [besideU_len, HK.out.1]; exact hlt
        rw [List.take_succ_eq_append_getElem hi2]
        have : (besideU K L)[i] = (besideU K L).getD i [] := by simp [List.getD, hi2]
        rw [this, besideU_at (by rw [HK.out.1]; exact hlt)])
      generalize K.getD i [] = r1 at *
      generalize L.getD i [] = r2 at *
      have HE1 := Shut.mk (news_u hl1 e1)
      have HE2 := Shut.mk e2
      have HL1 : Hid (r1.length = n) := hl1
      have HL2 : Hid (r2.length = n) := hl2
      clear q1 q2 e1 e2 hbw hl1 hl2
      go_wp2_with (at_builtin; refine wpList_append_own _ rfl _ _ 77 rfl wo.heap.size 53 i1 (.int .u8 0) 1 1 Try.underlying77 hi1 hy0 hy1 hy2 rfl (by decide) _ 0 [] rfl (World.ownsRow_nil _ _ _ _) ⟨b1', o1', none⟩ n cp1 (ucs r1) rfl ?c1 HE1.out (one_u r1) ?c3 ?c4 ?c5 ?_)
      case c1 => rw [ucs_len, Nat.mul_one]; exact HL1.out
      case c3 => unfold maxLen; omega
      case c4 => omega
      case c5 => exact Nat.le_refl _
      intro v1 w1 hown1 hg1 _
      have hb1 : Below wo.heap.size wo w1 := (Below.refl _ _).grown hg1 (Nat.le_refl _) (fun j hj => by cases hj)
      have hs1 := hb1.size
      have d3 := (hb1.cell (p := ⟨b2, o2 + i, none⟩) lb2).trans d2
      have HE3 := Shut.mk (news_u (w := w1) (b := b2') (o := o2') HL2.out (fun j hj => (hb1.cell (p := ⟨b2', o2' + j, none⟩) l2').trans (HE2.out j hj)))
      have HB1 := Shut.mk hb1
      clear hg1 hb1 HE2 HE1
      go_wp2_with (at_builtin; refine wpList_append_own _ rfl _ _ 77 rfl wo.heap.size 53 i1 (.int .u8 0) 1 1 Try.underlying77 hi1 hy0 hy1 hy2 rfl (by decide) _ n (ucs r1) rfl hown1 ⟨b2', o2', none⟩ n cp2 (ucs r2) rfl ?c1 HE3.out (one_u r2) ?c3 ?c4 ?c5 ?_)
      case c1 => rw [ucs_len, Nat.mul_one]; exact HL2.out
      case c3 => unfold maxLen; omega
      case c4 => omega
      case c5 => exact hs1
      intro v2 w2 hown2 hg2 _
      rw [show ucs r1 ++ ucs r2 = ucs (r1 ++ r2) by simp [ucs]] at hown2
      obtain ⟨gr, cr, rfl, hcr⟩ := own_at hown2 (by omega)
      have hgr := hown2.lt gr rfl
      have HROW := Shut.mk (own_wcells hown2)
      have hbq : Below wo.heap.size wo w2 := HB1.out.grown hg2 hs1 (fun j hj => (hown1.lt j hj).1)
      have HBI := Shut.mk (hbi.out.newrow hbq hgr.1)
      have hsi : wo.heap.size ≤ w2.heap.size := hbq.size
      have hgr1 := hgr.1
      have hown := HBI.out.1.own
      clear hown2 hbq hbi hgr hown1 hg2 HB1 d3 HE3
      go_wp2_with (at_builtin; refine wpList_append_own _ rfl _ _ 51 rfl w.heap.size 77 i0 (.slice none 0 0) 1 24 Try.underlying51 hi0 hz0 hz1 hz2 rfl (by decide) _ _ _ rfl (hown.alloc _) ⟨w2.heap.size, 0, none⟩ 1 1 [.slice (some ⟨gr, 0, none⟩) (n + n) cr] rfl rfl (cell_one_new _ _ _) ?c2 ?c3 ?c4 ?c5 ?_)
      case c2 => first | rfl | (intro u hu; simp at hu; subst hu; rfl)
      case c3 => unfold maxLen; have := HI.out; omega
      case c4 => have := HI.out; omega
      case c5 => first | omega | (simp; omega)
      intro v' w6 hown' hgrow _
      have hlen : (r1 ++ r2).length = n + n := by rw [List.length_append, HL1.out, HL2.out]
      have hne : r1 ++ r2 ≠ [] := fun e => by rw [e] at hlen; simp at hlen; omega
      have hap := HBI.out.1.append (cap := cr) (by omega) HROW.out hne (by rw [hlen]; exact hcr) HBI.out.2.1 HBI.out.2.2 (by rw [hlen]; exact hown') hgrow
      have HAP := Shut.mk hap
      have HR2 : Shut (kws (ts ++ [KS.mk (some ⟨gr, 0, none⟩) (r1 ++ r2) cr]) = (besideU K L).take (i + 1)) := ⟨by rw [kws_snoc, hrw.out, HST.out, HI.out]⟩
      clear hap hown' hgrow hown HBI HROW hrw hlen hne
      go_wp2_with fail
      go_roundw
      case rel => exact ⟨_, v', rfl, by rw [List.length_append, List.length_singleton, ← HI.out]; go_num, by rw [List.length_append, List.length_singleton, ← HI.out]; omega, ⟨by rw [List.length_append, List.length_singleton, ← HI.out]; exact HR2.out⟩, HAP⟩
      case measure => simp [intOf]; omega
    · have e : i = n := by omega
      have hlt' : ¬ (i : Int) < (n : Int) := by omega
      have HF := Shut.mk (hbi.out.fin (X := besideU K L) (by
        rw [hrw.out, List.take_of_length_le (by rw [besideU_len, HK.out.1, ← HI.out]; omega)]))
      have HB := Shut.mk hbi.out.bel
      clear e hbi hrw
      go_wp2_with fail
      go_ret
      exact ⟨v, rfl, HF.out, HB.out⟩
/-- Where the making of the right halves stands. -/
structure HI2 (w wr : World) (v : Value) (ts : List KS) : Prop where
  own : wr.ownsRow w.heap.size 77 1 v ts.length (kvs ts)
  rows : ∀ s ∈ ts, RRow w s.loc (ucs s.row) 0 w.heap.size
  bel : Below w.heap.size w wr
def FromPost (K : List (List B8)) (w : World) (e : Ending) (w' : World) : Prop := ∃ v, e = .returned v ∧ KSee w' v K 0 w'.heap.size ∧ Below w.heap.size w w'
theorem HI2.fin {w wr : World} {v : Value} {ts : List KS} {K : List (List B8)} (h : HI2 w wr v ts) (hK : kws ts = K) (hp : 0 < ts.length) : KSee wr v K 0 wr.heap.size := by
  obtain ⟨g, cap, e, hc⟩ := own_at h.own hp
  have hown := h.own
  rw [e] at hown
  have hs := h.bel.size
  refine ⟨_, cap, ts, e, hK, RRow.of_wcells (own_wcells hown) (Nat.zero_le _) (own_wcells hown).1, fun s hs' => ?_⟩
  exact ((h.rows s hs').below h.bel).wide (Nat.le_refl _) hs
set_option maxRecDepth 100000 in
set_option maxHeartbeats 4000000 in
theorem implFrom (n B g cap : Nat) (ss : List KS) (w : World) (h : KX w B g ss) (hn : ss.length = n) (hr : ∀ i, i < n → ((kws ss).getD i []).length = n + n) (hn1 : 1 ≤ n) (h8 : n ≤ 8) :
    Calls Try.prog 69 #[.slice (some ⟨g, 0, none⟩) n cap, .int .i64 (n : Int)] w fun e w' => FromPost (halfU n (kws ss)) w e w' := by
  obtain ⟨i0, hi0, hz0, hz1, hz2⟩ := info_parts infoRowB
  have HH := Shut.mk h
  have HN : Hid (ss.length = n) := hn
  have HR := Shut.mk hr
  clear h hn hr
  go_enter Try.func69, Try.ntmps69
  go_wp2_with fail
  go_loopw [5, 10] (fun v i wr => ∃ (ts : List KS) (vv : Value), vv = v ∧ i = .int .i64 (ts.length : Nat) ∧ ts.length ≤ n ∧ Shut (kws ts = (halfU n (kws ss)).take ts.length) ∧ Shut (HI2 w wr vv ts)) (fun _ i _ => n - (intOf i).toNat)
  case atStart => exact ⟨[], _, rfl, rfl, by simp, ⟨rfl⟩, ⟨⟨World.ownsRow_nil _ _ _ _, by simp, Below.refl _ _⟩⟩⟩
  case round =>
    obtain ⟨ts, v, rfl, rfl, hk, hrw, hbi⟩ := hrel
    obtain ⟨wo, rfl⟩ : ∃ wo, wo = wr := ⟨_, rfl⟩
    obtain ⟨i, hie⟩ : ∃ i, i = ts.length := ⟨_, rfl⟩
    have HI : Hid (i = ts.length) := hie
    rw [← hie] at hk ⊢
    clear hie
    by_cases hlt : i < n
    · have hlt' : (i : Int) < (n : Int) := by omega
      have k0 : (0 : Int) ≤ (i : Int) := by omega
      have hsz := hbi.out.bel.size
      obtain ⟨b, cp, q1, q2, q3, q4, q5, q6, d1, z1, q7, ev1⟩ := HH.out.at (i := i) (by have := HN.out; omega) (HR.out i hlt)
      have hgl := HH.out.out.1
      have d2 := (hbi.out.bel.cell (p := ⟨g, i, none⟩) hgl).trans d1
      have hlen := HR.out i hlt
      have HST := Shut.mk (show (halfU n (kws ss)).take (i + 1) = (halfU n (kws ss)).take i ++ [((kws ss).getD i []).drop n] by
        have hi3 : i < (kws ss).length := by rw [kws_len]; have := HN.out; omega
        have hi2 : i < (halfU n (kws ss)).length := by unfold halfU; rw [List.length_map]; exact hi3
        rw [List.take_succ_eq_append_getElem hi2]
        simp [halfU, List.getD, hi3])
      generalize (kws ss).getD i [] = r at *
      have HQ7 := Shut.mk q7
      have HLN : Hid (r.length = n + n) := hlen
      have hown := hbi.out.own
      have n0 : (0 : Int) ≤ (n : Int) := by omega
      have n2 : (n : Int) ≤ (n : Int) + (n : Int) := by omega
      have n3 : (n : Int) + (n : Int) ≤ (cp : Int) := by omega
      clear q1 q2 q7 ev1 z1 hlen d1
      go_wp2_with (at_builtin; refine wpList_append_own _ rfl _ _ 51 rfl w.heap.size 77 i0 (.slice none 0 0) 1 24 Try.underlying51 hi0 hz0 hz1 hz2 rfl (by decide) _ _ _ rfl (hown.alloc _) ⟨wo.heap.size, 0, none⟩ 1 1 [.slice (some ⟨b, n, none⟩) n (cp - n)] rfl rfl (cell_one_new _ _ _) ?c2 ?c3 ?c4 ?c5 ?_)
      case c2 => first | rfl | (intro u hu; simp at hu; subst hu; rfl)
      case c3 => unfold maxLen; have := HI.out; omega
      case c4 => have := HI.out; omega
      case c5 => first | omega | (simp; omega)
      intro v' w6 hown' hgrow _
      have hdl : (r.drop n).length = n := by rw [List.length_drop, HLN.out]; omega
      have hap : HI2 w w6 v' (ts ++ [KS.mk (some ⟨b, n, none⟩) (r.drop n) (cp - n)]) := by
        refine ⟨?_, fun s hs => ?_, (hbi.out.bel.alloc hsz (.cells #[.slice (some ⟨b, n, none⟩) n (cp - n)] 77)).grown hgrow (by simp; omega) (fun j hj => (hown.lt j hj).1)⟩
        · have e : kvs (ts ++ [KS.mk (some ⟨b, n, none⟩) (r.drop n) (cp - n)]) = kvs ts ++ [.slice (some ⟨b, n, none⟩) n (cp - n)] := by simp only [kvs, List.map_append, List.map_cons, List.map_nil, ksv, hdl]
          rw [e, List.length_append]
          exact hown'
        · rcases List.mem_append.1 hs with h1 | h1
          · exact hbi.out.rows s h1
          · simp at h1
            subst h1
            intro _
            refine ⟨b, n, rfl, Nat.zero_le _, q5, q5, fun j u hj => ?_⟩
            have hj' : j < (r.drop n).length := by have := (List.getElem?_eq_some_iff.1 hj).1; rwa [ucs_len] at this
            rw [ucs_get _ j hj'] at hj
            have := (HQ7.out.2 (n + j) _ (ucs_get r (n + j) (by have := HLN.out; omega))).1
            rw [this, ← hj]
            simp [List.getD]
      have HAP := Shut.mk hap
      have HR2 : Shut (kws (ts ++ [KS.mk (some ⟨b, n, none⟩) (r.drop n) (cp - n)]) = (halfU n (kws ss)).take (i + 1)) := ⟨by rw [kws_snoc, hrw.out, HST.out, HI.out]⟩
      clear hap hown' hgrow hown hbi hrw hdl
      go_wp2_with fail
      go_roundw
      case rel => exact ⟨_, v', rfl, by rw [List.length_append, List.length_singleton, ← HI.out]; go_num, by rw [List.length_append, List.length_singleton, ← HI.out]; omega, ⟨by rw [List.length_append, List.length_singleton, ← HI.out]; exact HR2.out⟩, HAP⟩
      case measure => simp [intOf]; omega
    · have e : i = n := by omega
      have hlt' : ¬ (i : Int) < (n : Int) := by omega
      have HF := Shut.mk (hbi.out.fin (K := halfU n (kws ss)) (by
        rw [hrw.out, List.take_of_length_le (by unfold halfU; rw [List.length_map, kws_len, ← HI.out]; have := HN.out; omega)]) (by have := HI.out; omega))
      have HB := Shut.mk hbi.out.bel
      clear e hbi hrw
      go_wp2_with fail
      go_ret
      exact ⟨v, rfl, HF.out, HB.out⟩
end Go.Proofs.Ytdpcndbfbmphjaa
