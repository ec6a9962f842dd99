/- Texts of ours, laid one behind the other: StY, StZ. -/
import Derived.Test.YtakhagkhngmpaaaGreatQnStX
import Derived.Test.YtakhagkhngmpaaaGreatQn9
/- StY: . -/
namespace Go.Proofs.YtakhagkhngmpaaaGreat
set_option maxRecDepth 100000
open Go.RowKit
attribute [local go_sem ↓] Go.wp_at_zero Go.wp_at_succ
theorem stp_zero {T : TM} {e : EM} {g : Int} (h : (stpX T e g).2.2 = 0) : treeOk (stpX T e g).1 = true ∧ 1 ≤ g ∧ g ≤ 99000 ∧ 0 ≤ (stpX T e g).2.1 ∧ (stpX T e g).2.1 ≤ 1000 := by
 unfold stpX at h ⊢
 by_cases h1 : mayX T e g = false
 ·rw [if_pos h1] at h
  exact absurd h (by decide)
 rw [if_neg h1] at h ⊢
 obtain ⟨-, hE, g1, g2⟩ := may_parts (by simpa using h1 : mayX T e g = true)
 by_cases h2 : findX T (mustP e) = 0
 ·rw [if_pos h2] at h
  exact absurd h (by decide)
 rw [if_neg h2] at h ⊢
 by_cases h3 : refX T e (ndAt T (plc T (findX T (mustP e)))) ≠ 0
 ·rw [if_pos h3] at h
  exact absurd h h3
 rw [if_neg h3] at h ⊢
 by_cases h4 : treeOk (chT T e (plc T (findX T (mustP e))) g) = false
 ·rw [if_pos h4] at h
  exact absurd h (by decide)
 rw [if_neg h4]
 refine ⟨by simpa using h4, g1, g2, ?_⟩
 dsimp only
 unfold takX
 split
 ·rename_i k7
  have hn7 := (edit_numz hE (by omega)).2.2.2.2.2.1 k7
  have := spans_len (ndAt T (plc T (findX T (mustP e)))).schema e.num (by omega)
  omega
 split <;> omega
attribute [local irreducible] treeOk stpX applyX groupsX
end Go.Proofs.YtakhagkhngmpaaaGreat
/- StZ: . -/
namespace Go.Proofs.YtakhagkhngmpaaaGreat
set_option maxRecDepth 100000
open Go.RowKit
attribute [local go_sem ↓] Go.wp_at_zero Go.wp_at_succ
attribute [local irreducible] treeOk stpX applyX groupsX allX
theorem AL.new {w W : World} {L : List (Nat × List Value)} {ob : Nat} {v : Value} {T : TM} (h : AL w W L ob v T) (cs : Array Value) (t : TypeId) : AL w (W.alloc (.cells cs t)) ((W.heap.size, cs.toList) :: L) ob v T :=
 ⟨h.mb.new cs t, (h.below ((Below.refl _ _).alloc (Nat.le_refl _) _)).ans, h.fit⟩
set_option maxHeartbeats 4000000 in
theorem implApplyAll {w : World} {v : Value} {T : TM} {lo hi : Nat} (la : Option Addr) (lc : Nat) (es : List EM) (l1 l2 : Nat) (gr : Int) (h : TSee w v T lo hi) (hf : NFit T) (hI : NInt T.nodes) (hE : RRow w la (ecs es) l1 l2) (he : ∀ e ∈ es, EFit e) (hel : es.length ≤ 1048576) : Calls Tryz.prog 27 #[v, .slice la es.length lc, .int .i64 gr] w fun r w' => ApPost (allX T es gr) w r w' := by
 have HCP := Shut.mk (fun (W : World) (hb : Below w.heap.size w W) => implCopy (h.below hb) hf)
 have HF := Shut.mk (And.intro hf hI)
 obtain ⟨R, hR⟩ : ∃ R, R = allX T es gr := ⟨_, rfl⟩
 rw [← hR]
 have HR := Shut.mk hR
 unfold CpPost at HCP
 obtain ⟨a, cap, rs, rfl, hr, hm⟩ := h
 obtain ⟨n, hn⟩ : ∃ n, n = rs.length := ⟨_, rfl⟩
 obtain ⟨nx, hnx⟩ : ∃ nx, nx = T.next := ⟨_, rfl⟩
 rw [← hn, ← hnx] at HCP ⊢
 have HNX := Shut.mk hnx
 have HE := Shut.mk hE
 have HFE := Shut.mk he
 obtain ⟨ln, hln⟩ : ∃ n, n = es.length := ⟨_, rfl⟩
 rw [← hln] at hel ⊢
 have HLN := Shut.mk hln
 clear hn hm hr hf hI hE he hR hln hnx
 go_enter Tryz.func27, Tryz.ntmps27
 go_upto_region 1 with fail
 obtain ⟨tb, htb⟩ : ∃ tb, tb = w.heap.size := ⟨_, rfl⟩
 obtain ⟨rb, hrb⟩ : ∃ rb, rb = w.heap.size + 1 := ⟨_, rfl⟩
 refine wp_shade (fun W => MB w W [(rb, [.slice none 0 0, .int .i64 0]), (tb, [.slice a n cap, .int .i64 nx])]) (by rw [hrb, htb]; exact MB.two w #[.slice a n cap, .int .i64 nx] #[.slice none 0 0, .int .i64 0] 26 26) ?_
 intro W0 hM
 have HM := Shut.mk hM
 rw [← hrb, ← htb]
 have HRB := Shut.mk hrb
 clear hM htb hrb
 have x0 := ((HM.out.at 1 rfl).1.2 0 _ rfl).1
 have x1 := ((HM.out.at 1 rfl).1.2 1 _ rfl).1
 have hw0 := Shut.mk (HM.out.at 0 rfl).1.1
 go_upto_region 2 with (go_at_call 59; refine (HCP.out _ HM.out.bel).mono ?_; rintro e w1 ⟨a5, c5, rs5, rfl, hr5, hnb5, hb1⟩; have HANS := Shut.mk (hnb5.ans (w := W0) (nx := nx) hr5 (Nat.le_refl _)); replace HM := Shut.mk (HM.out.below hb1); clear hr5 hnb5 hb1 x0 x1)
 obtain ⟨m5, hm5⟩ : ∃ m, m = rs5.length := ⟨_, rfl⟩
 obtain ⟨nb, hnb⟩ : ∃ m, m = w1.heap.size := ⟨_, rfl⟩
 rw [← hm5] at HANS ⊢
 rw [← hnb]
 refine wp_shade (fun W => AL w W ((nb, [.slice a5 m5 c5, .int .i64 nx]) :: [(rb, [.slice none 0 0, .int .i64 0]), (tb, [.slice a n cap, .int .i64 nx])]) nb (.agg #[.slice a5 m5 c5, .int .i64 nx]) T) (by
  refine ⟨by rw [hnb]; exact HM.out.new #[.slice a5 m5 c5, .int .i64 nx] 26, ⟨W0.heap.size, w1.heap.size, ?_, by have := hw0.out; have := HRB.out; omega, .inl (by omega), by simp⟩, HF.out.1⟩
  have q := HANS.out.below ((Below.refl _ _).alloc (Nat.le_refl _) (.cells #[.slice a5 m5 c5, .int .i64 nx] 26))
  rw [HNX.out] at q ⊢
  exact q) ?_
 rintro W1 hA1
 have HAL := Shut.mk hA1
 clear hA1 HM HANS hm5 hnb hw0 HCP
 go_wp2_with fail
 go_loopw [2, 18] (fun gv iv wr => ∃ (k : Nat) (g : Int) (ka : Option Addr) (km kc : Nat) (Tk : TM) (kx : Int), gv = .int .i64 g ∧ iv = .int .i64 k ∧ k ≤ ln ∧ Shut (allX T (es.take k) gr = (Tk, g)) ∧ Shut (AL w wr ((nb, [.slice ka km kc, .int .i64 kx]) :: [(rb, [.slice none 0 0, .int .i64 0]), (tb, [.slice a n cap, .int .i64 nx])]) nb (.agg #[.slice ka km kc, .int .i64 kx]) Tk) ∧ Shut (kx = Tk.next) ∧ Shut (NInt Tk.nodes)) (fun _ iv _ => ln - (intOf iv).toNat)
 case atStart => exact ⟨0, gr, _, _, _, T, nx, rfl, rfl, Nat.zero_le _, ⟨by unfold allX; simp⟩, HAL, HNX, ⟨HF.out.2⟩⟩
 case round =>
  clear HAL
  obtain ⟨k, g, ka, km, kc, Tk, kx, rfl, rfl, hk, HTK, HA, HKX, HNI⟩ := hrel
  have k0 : (0 : Int) ≤ (k : Int) := by omega
  by_cases hlt : k < ln
  case pos =>
   have k1 : (k : Int) < (ln : Int) := by omega
   have hkl : k < es.length := by have := HLN.out; omega
   have hst := all_take T es gr k hkl
   rw [HTK.out] at hst
   obtain ⟨b, off, hla, lb, hc⟩ := ecs_at HE.out (by omega)
   subst hla
   have hce := hc k hkl
   have HEF := Shut.mk (HFE.out _ (List.getElem_mem hkl))
   obtain ⟨e, hee⟩ : ∃ e, e = es[k] := ⟨_, rfl⟩
   rw [← hee] at hst hce HEF
   clear hee hc hkl
   obtain ⟨kind, path, dest, num, who⟩ := e
   dsimp only at hce
   obtain ⟨lo9, hi9, hans9, hlo9, hob9, hhi9⟩ := HA.out.ans
   have hB := HA.out.mb.bel
   have c0 := (hB.cell (p := ⟨b, off + k * 5, none⟩) lb).trans hce.1
   have c1 := (hB.cell (p := ⟨b, off + k * 5 + 1, none⟩) lb).trans hce.2.1
   have c2 := (hB.cell (p := ⟨b, off + k * 5 + 2, none⟩) lb).trans hce.2.2.1
   have c3 := (hB.cell (p := ⟨b, off + k * 5 + 3, none⟩) lb).trans hce.2.2.2.1
   have c4 := (hB.cell (p := ⟨b, off + k * 5 + 4, none⟩) lb).trans hce.2.2.2.2
   have HSE := Shut.mk hans9.see
   have HST := Shut.mk (fun (W : World) (hb : Below wr.heap.size wr W) => implStep ⟨kind, path, dest, num, who⟩ g (HSE.out.below hb) HA.out.fit HNI.out HEF.out)
   have hsa := stp_apply Tk ⟨kind, path, dest, num, who⟩ g
   have hzz := @stp_zero Tk ⟨kind, path, dest, num, who⟩ g
   have hstp : allX T (es.take (k + 1)) gr = if (applyX Tk ⟨kind, path, dest, num, who⟩ g).2 = 0 then ((applyX Tk ⟨kind, path, dest, num, who⟩ g).1, groupsX Tk ⟨kind, path, dest, num, who⟩ g) else (Tk, g) := hst
   obtain ⟨RT, tk, rc, hRR⟩ : ∃ RT tk rc, stpX Tk ⟨kind, path, dest, num, who⟩ g = (RT, tk, rc) := ⟨_, _, _, rfl⟩
   rw [hRR] at HST hsa hzz
   dsimp only at hsa hzz
   rw [← hsa.2.2.2, ← hsa.1] at hstp
   have HSP : Shut (allX T (es.take (k + 1)) gr = if rc = 0 then (RT, g + tk) else (Tk, g)) := ⟨by
    rw [hstp]
    by_cases q : rc = 0
    ·rw [if_pos q, if_pos q, hsa.2.1 (hsa.1.symm.trans q)]
    ·rw [if_neg q, if_neg q]⟩
   have HZZ := Shut.mk hzz
   unfold StPost at HST
   clear hst hstp hsa hRR hans9 hlo9 hob9 hhi9 hB hce HSE hzz
   go_upto_region 5 with fail
   obtain ⟨kb, hkb⟩ : ∃ kb, kb = wr.heap.size := ⟨_, rfl⟩
   rw [← hkb]
   refine wp_shade (fun W => AL w W ((kb, [.int .i64 kind, .string path, .string dest, .int .i64 num, .int .i64 who]) :: ((nb, [.slice ka km kc, .int .i64 kx]) :: [(rb, [.slice none 0 0, .int .i64 0]), (tb, [.slice a n cap, .int .i64 nx])])) nb (.agg #[.slice ka km kc, .int .i64 kx]) Tk ∧ Below wr.heap.size wr W) ⟨by rw [hkb]; exact HA.out.new #[.int .i64 kind, .string path, .string dest, .int .i64 num, .int .i64 who] 28, (Below.refl _ _).alloc (Nat.le_refl _) _⟩ ?_
   rintro w2 ⟨hA2, hb2⟩
   replace HA := Shut.mk hA2
   have HB2 := Shut.mk hb2
   clear hA2 hb2 hkb c0 c1 c2 c3 c4
   have e0 := ((HA.out.mb.at 0 rfl).1.2 0 _ rfl).1
   have e1 := ((HA.out.mb.at 0 rfl).1.2 1 _ rfl).1
   have e2 := ((HA.out.mb.at 0 rfl).1.2 2 _ rfl).1
   have e3 := ((HA.out.mb.at 0 rfl).1.2 3 _ rfl).1
   have e4 := ((HA.out.mb.at 0 rfl).1.2 4 _ rfl).1
   have d0 := ((HA.out.mb.at 1 rfl).1.2 0 _ rfl).1
   have d1 := ((HA.out.mb.at 1 rfl).1.2 1 _ rfl).1
   have HN2 := Shut.mk (And.intro (HA.out.mb.at 1 rfl).1.1 (HA.out.mb.at 2 rfl).1.1)
   go_upto_region 6 with (go_at_call 58; refine (HST.out _ HB2.out).mono ?_; rintro e w5 ⟨vv, rfl, hans, hb5⟩; obtain ⟨a5, c5, rs5, rfl, hr5, hc5, hq5⟩ := hans.see_form; have HAN := Shut.mk hans; have HB5 := Shut.mk hb5; replace HA := Shut.mk (HA.out.below hb5); clear hr5 hc5 hq5 hans hb5 e0 e1 e2 e3 e4 d0 d1)
   obtain ⟨m5, hm5⟩ : ∃ m, m = rs5.length := ⟨_, rfl⟩
   obtain ⟨t5, ht5⟩ : ∃ m, m = RT.next := ⟨_, rfl⟩
   obtain ⟨jb, hjb⟩ : ∃ m, m = w5.heap.size := ⟨_, rfl⟩
   rw [← hm5, ← ht5] at HAN ⊢
   rw [← hjb]
   refine wp_shade (fun W => AL w W ((jb, [.slice a5 m5 c5, .int .i64 t5]) :: (kb, [.int .i64 kind, .string path, .string dest, .int .i64 num, .int .i64 who]) :: ((nb, [.slice ka km kc, .int .i64 kx]) :: [(rb, [.slice none 0 0, .int .i64 0]), (tb, [.slice a n cap, .int .i64 nx])])) nb (.agg #[.slice ka km kc, .int .i64 kx]) Tk ∧ TAns W (.agg #[.slice a5 m5 c5, .int .i64 t5]) RT w2.heap.size W.heap.size) ⟨by rw [hjb]; exact HA.out.new #[.slice a5 m5 c5, .int .i64 t5] 26, (HAN.out.below ((Below.refl _ _).alloc (Nat.le_refl _) _)).wide (Nat.le_refl _) (by simp)⟩ ?_
   rintro w6 ⟨hA6, ha6⟩
   replace HA := Shut.mk hA6
   replace HAN := Shut.mk ha6
   have HT5 := Shut.mk ht5
   clear hA6 ha6 hm5 ht5 hjb HB5
   have d0 := ((HA.out.mb.at 0 rfl).1.2 0 _ rfl).1
   have d1 := ((HA.out.mb.at 0 rfl).1.2 1 _ rfl).1
   obtain ⟨r0, rf0⟩ := (HA.out.mb.at 2 rfl).1.2 0 _ rfl
   obtain ⟨r1, rf1⟩ := (HA.out.mb.at 2 rfl).1.2 1 _ rfl
   by_cases hz : rc = 0
   case neg =>
    have z1 : (rc == 0) = false := by simp [hz]
    have z3 : decide (rc = 0) = false := by simp [hz]
    have HS1 : Shut (allX T (es.take (k + 1)) gr = (Tk, g)) := ⟨by rw [HSP.out, if_neg hz]⟩
    have HA9 : Shut (AL w w6 ((nb, [.slice ka km kc, .int .i64 kx]) :: [(rb, [.slice none 0 0, .int .i64 0]), (tb, [.slice a n cap, .int .i64 nx])]) nb (.agg #[.slice ka km kc, .int .i64 kx]) Tk) := ⟨⟨HA.out.mb.less.less, HA.out.ans, HA.out.fit⟩⟩
    go_wp2_with fail
    go_roundw
    case rel => exact ⟨k + 1, g, ka, km, kc, Tk, kx, rfl, by go_num, by omega, HS1, HA9, HKX, HNI⟩
    case measure => simp [intOf]; omega
   case pos =>
   subst hz
   obtain ⟨hok, hg1, hg2, ht1, ht2⟩ := HZZ.out rfl
   have HS1 : Shut (allX T (es.take (k + 1)) gr = (RT, g + tk)) := ⟨by rw [HSP.out, if_pos rfl]⟩
   have HOK := Shut.mk hok
   have gb1 : -9223372036854775808 ≤ g + tk := by omega
   have gb2 : g + tk ≤ 9223372036854775807 := by omega
   clear hok
   have HA9 : Shut (AL w ((w6.setCell ⟨nb, 0, none⟩ (.slice a5 m5 c5)).setCell ⟨nb, 1, none⟩ (.int .i64 t5)) ((nb, [.slice a5 m5 c5, .int .i64 t5]) :: [(rb, [.slice none 0 0, .int .i64 0]), (tb, [.slice a n cap, .int .i64 nx])]) nb (.agg #[.slice a5 m5 c5, .int .i64 t5]) RT) := ⟨by
    have M2 := ((HA.out.mb.less.less).put 0 rfl 0 (.slice a5 m5 c5) (by simp)).put 0 rfl 1 (.int .i64 t5) (by simp)
    have hn2 := HN2.out
    refine ⟨M2, ⟨w2.heap.size, w6.heap.size, (HAN.out.box nb 0 _ hn2.1).box nb 1 _ hn2.1, ?_, .inr hn2.1, by simp⟩, tree_fit HOK.out⟩
    have := HRB.out
    omega⟩
   go_wp2_with fail
   go_roundw
   case rel => exact ⟨k + 1, g + tk, a5, m5, c5, RT, t5, rfl, by go_num, by omega, HS1, HA9, HT5, ⟨tree_int HOK.out⟩⟩
   case measure => simp [intOf]; omega
  case neg =>
   have k1 : ¬ ((k : Int) < (ln : Int)) := by omega
   have hall : es.take k = es := List.take_of_length_le (by have := HLN.out; omega)
   rw [hall, ← HR.out] at HTK
   obtain ⟨z0, zf0⟩ := (HA.out.mb.at 0 rfl).1.2 0 _ rfl
   obtain ⟨z1, zf1⟩ := (HA.out.mb.at 0 rfl).1.2 1 _ rfl
   obtain ⟨q0, qf0⟩ := (HA.out.mb.at 1 rfl).1.2 0 _ rfl
   obtain ⟨q1, qf1⟩ := (HA.out.mb.at 1 rfl).1.2 1 _ rfl
   have HFIN : Shut (FinT w ((wr.setCell ⟨rb, 0, none⟩ (.slice ka km kc)).setCell ⟨rb, 1, none⟩ (.int .i64 kx)) rb (.slice ka km kc) kx Tk) := ⟨by
    obtain ⟨lo9, hi9, h1, h2, h3, h4⟩ := HA.out.ans
    have hrb := HRB.out
    have M2 := (HA.out.mb.put 1 rfl 0 (.slice ka km kc) (by simp)).put 1 rfl 1 (.int .i64 kx) (by simp)
    refine ⟨((M2.at 1 rfl).1.2 0 _ rfl).1, ((M2.at 1 rfl).1.2 1 _ rfl).1, ?_, M2.bel⟩
    have hs : ((wr.setCell ⟨rb, 0, none⟩ (.slice ka km kc)).setCell ⟨rb, 1, none⟩ (.int .i64 kx)).heap.size = wr.heap.size := by simp
    rw [hs]
    exact ((h1.box rb 0 _ (by omega)).box rb 1 _ (by omega)).wide (by omega) h4⟩
   clear hall
   go_wp2_with fail
   refine body_shade (fun W => FinT w W rb (.slice ka km kc) kx Tk) HFIN.out ?_
   rintro W8 ⟨r0, r1, hans, hbel⟩
   exact bodyPost_ret (v := .tuple #[.agg #[.slice ka km kc, .int .i64 kx], .int .i64 g]) (by simp [results, Tryz.results27, go_sem, r0, r1]) rfl ⟨_, by rw [HTK.out], by rw [HTK.out]; exact hans, hbel⟩
end Go.Proofs.YtakhagkhngmpaaaGreat
