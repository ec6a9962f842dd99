/- The draws of squares. -/
import Derived.Test.YtdpcndbfbmphjaaNestG
import Derived.Test.YtdpcndbfbmphjaaDrawP
import Derived.Test.YtdpcndbfbmphjaaMatG
import Derived.Test.YtdpcndbfbmphjaaMatH
import Derived.OwnWalk
namespace Go.Proofs.Ytdpcndbfbmphjaa
open Go.RowKit
attribute [local go_sem ↓] Go.wp_at_zero Go.wp_at_succ

/-- A number that is picked out of a row is one of it. -/
def PickPost (P : Int → Prop) (w : World) (g B : Nat) (a : Option Addr) (len cap : Nat) (e : Ending) (w' : World) : Prop :=
  ∃ x : Int, e = .returned (.int .i64 x) ∧ P x ∧ Cur w' g B a len cap ∧ w.grownBy w' (some g)
set_option maxHeartbeats 400000 in
theorem l01PickInt_in (P : Int → Prop) (w : World) (g B : Nat) (a : Option Addr) (len cap : Nat) (gl m : Nat) (hm : 0 < m) (hm2 : m ≤ 1000) (hne : gl ≠ g) (hl : ∀ j, j < m → ∃ y : Int, w.cell? ⟨gl, j, none⟩ = some (.int .i64 y) ∧ P y) (hc : Cur w g B a len cap) :
    Calls Try.prog 64 #[.pointer (some ⟨g, 0, none⟩), .slice (some ⟨gl, 0, none⟩) m m] w fun e w' => PickPost P w g B a len cap e w' := by
  have HC : Hid (Cur w g B a len cap) := hc
  have HL : Hid (∀ j, j < m → ∃ y : Int, w.cell? ⟨gl, j, none⟩ = some (.int .i64 y) ∧ P y) := hl
  clear hc hl
  go_enter Try.func64, Try.ntmps64
  go_wp2_with fail
  refine (l01Below_any _ g B a len cap m (by omega) HC.out).mono ?_
  rintro e w1 ⟨x, rfl, x0, x1, hc1, hg1⟩
  have HC1 : Hid (Cur w1 g B a len cap) := hc1
  have HG : Hid (w.grownBy w1 (some g)) := hg1
  obtain ⟨j, rfl⟩ := Int.eq_ofNat_of_zero_le x0
  obtain ⟨y, hy, hp⟩ := HL.out j (by omega)
  have c1 := hg1.cell hy (by simp; omega)
  have j1 : (j : Int) < (m : Int) := by omega
  have HP : Hid (P y) := hp
  clear hc1 hg1 hy hp
  go_wp2_with fail
  go_ret
  exact ⟨y, rfl, HP.out, HC1.out, HG.out⟩
theorem five_ints (w : World) (t : TypeId) (P : Int → Prop) (y0 y1 y2 y3 y4 : Int) (h0 : P y0) (h1 : P y1) (h2 : P y2) (h3 : P y3) (h4 : P y4) (j : Nat) (hj : j < 5) :
    ∃ y : Int, (w.alloc (.cells #[.int .i64 y0, .int .i64 y1, .int .i64 y2, .int .i64 y3, .int .i64 y4] t)).cell? ⟨w.heap.size, j, none⟩ = some (.int .i64 y) ∧ P y := by
  rw [World.cell?_alloc_mark]
  match j, hj with
  | 0, _ => exact ⟨y0, rfl, h0⟩
  | 1, _ => exact ⟨y1, rfl, h1⟩
  | 2, _ => exact ⟨y2, rfl, h2⟩
  | 3, _ => exact ⟨y3, rfl, h3⟩
  | 4, _ => exact ⟨y4, rfl, h4⟩
def SquarePost (n : Nat) (w : World) (g B : Nat) (a : Option Addr) (len cap : Nat) (e : Ending) (w' : World) : Prop :=
  ∃ v X, e = .returned v ∧ Sq n X ∧ MAns w' v X w.heap.size w'.heap.size ∧ Cur w' g B a len cap ∧ w.grownBy w' (some g)
theorem cur_grown {w w' : World} {g B len cap C : Nat} {a : Option Addr} {q : Option Nat} (h : Cur w g B a len cap) (hg : w.grownBy w' q) (hC : g < C) (hCs : C ≤ w.heap.size) (hq2 : ∀ k, q = some k → C ≤ k) : Cur w' g B a len cap := by
  have hb3 : Below C w w' := ⟨hg.os, hg.tape, hg.output, hg.size, fun k hk => hg.block k (by omega) (fun e => by have := hq2 k e.symm; omega)⟩
  obtain ⟨hB, hgs, hcode, c0, ⟨i, c1, hi⟩, ⟨k, c2⟩, hf⟩ := h
  exact ⟨hB, by have := hb3.size; omega, hcode.below hb3 (by omega), (hb3.cell (p := ⟨g, 0, none⟩) hC).trans c0, ⟨i, (hb3.cell (p := ⟨g, 1, none⟩) hC).trans c1, hi⟩, ⟨k, (hb3.cell (p := ⟨g, 2, none⟩) hC).trans c2⟩, fun j hj => (hb3.frozen (p := ⟨g, j, none⟩) hC).trans (hf j hj)⟩
abbrev In8 (y : Int) : Prop := 0 ≤ y ∧ y ≤ 255
set_option maxRecDepth 100000 in
set_option maxHeartbeats 2000000 in
theorem l06Square_any (w : World) (g B : Nat) (a : Option Addr) (len cap n : Nat) (hn1 : 1 ≤ n) (hn8 : n ≤ 8) (hc : Cur w g B a len cap) :
    Calls Try.prog 38 #[.pointer (some ⟨g, 0, none⟩), .int .i64 (n : Int)] w fun e w' => SquarePost n w g B a len cap e w' := by
  obtain ⟨i0, hi0, hz0, hz1, hz2⟩ := info_parts infoRow
  obtain ⟨i1, hi1, hy0, hy1, hy2⟩ := info_parts infoIntG
  have hgw : g < w.heap.size := hc.2.1
  have hal : Below w.heap.size w (w.alloc (.cells #[] 33)) := (Below.refl _ _).alloc (Nat.le_refl _) _
  have HC0 : Shut (Cur (w.alloc (.cells #[] 33)) g B a len cap) := ⟨hc.below hal⟩
  have HBJ0 : Shut (BJ w (w.alloc (.cells #[] 33)) g (.slice (some ⟨w.heap.size, 0, none⟩) 0 0) []) := ⟨⟨World.ownsRow_made w #[] 0 (Nat.le_refl _) (by decide) rfl, by simp, List.nodup_nil, gb_below hal⟩⟩
  clear hc hal
  go_enter Try.func38, Try.ntmps38
  go_wp2_with fail
  go_loopw [5, 6] (fun v i wr => ∃ (ts : List SR) (vv : Value), vv = v ∧ i = .int .i64 (ts.length : Nat) ∧ ts.length ≤ n ∧ Shut (∀ x ∈ rws ts, x.length = n ∧ ∀ y ∈ x, In8 y) ∧ Shut (BJ w wr g vv ts) ∧ Shut (Cur wr g B a len cap)) (fun _ i _ => n - (intOf i).toNat)
  case atStart => exact ⟨[], _, rfl, rfl, by simp, ⟨by simp [rws]⟩, HBJ0, HC0⟩
  case round =>
    clear HBJ0 HC0
    obtain ⟨ts, v, rfl, rfl, hk, hr, hbj, hcu⟩ := hrel
    obtain ⟨wo, rfl⟩ : ∃ wo, wo = wr := ⟨_, rfl⟩
    obtain ⟨i, hie⟩ : ∃ i, i = ts.length := ⟨_, rfl⟩
    have HI : Hid (i = ts.length) := hie
    rw [← hie] at hk ⊢
    clear hie
    by_cases hlt : i < n
    · have hlt' : (i : Int) < (n : Int) := by omega
      have hso := hbj.out.gb.size
      have hgo : g < wo.heap.size := by omega
      have hal : Below wo.heap.size wo (wo.alloc (.cells #[] 3)) := (Below.refl _ _).alloc (Nat.le_refl _) _
      have HO1 : Shut ((wo.alloc (.cells #[] 3)).ownsRow wo.heap.size 3 1 (.slice (some ⟨wo.heap.size, 0, none⟩) 0 0) 0 []) := ⟨World.ownsRow_made wo #[] 0 (Nat.le_refl _) (by decide) rfl⟩
      have HC1 : Shut (Cur (wo.alloc (.cells #[] 3)) g B a len cap) := ⟨hcu.out.below hal⟩
      have HG1 : Shut (wo.grownBy (wo.alloc (.cells #[] 3)) (some g)) := ⟨gb_below hal⟩
      clear hal hcu
      go_wp2_with fail
      go_loopw [7, 8] (fun rv kk wq => ∃ (k : Nat) (l : List Int) (rr : Value), rr = rv ∧ kk = .int .i64 k ∧ k ≤ n ∧ l.length = k ∧ Shut (∀ y ∈ l, In8 y) ∧ Shut (wq.ownsRow wo.heap.size 3 1 rr k (ics l)) ∧ Shut (Cur wq g B a len cap) ∧ Shut (wo.grownBy wq (some g))) (fun _ kk _ => n - (intOf kk).toNat)
      case atStart => exact ⟨0, [], _, rfl, rfl, by omega, rfl, ⟨by simp⟩, HO1, HC1, HG1⟩
      case round =>
        clear HO1 HC1 HG1
        obtain ⟨k, l, rr, rfl, rfl, hkn, hlk, hlx, hown, hcu, hgb⟩ := hrel
        obtain ⟨wi, rfl⟩ : ∃ wi, wi = wr := ⟨_, rfl⟩
        have HL : Hid (l.length = k) := hlk
        clear hlk
        by_cases hkl : k < n
        · have hkl' : (k : Int) < (n : Int) := by omega
          go_wp2_with fail
          refine (l01Below_any _ g B a len cap 256 (by omega) hcu.out).mono ?_
          rintro e w1 ⟨x3, rfl, x30, x31, hc1, hg1⟩
          have HC1 := Shut.mk hc1
          have HG1 := Shut.mk (gb_two hgb.out hg1)
          have HO1 := Shut.mk (own_gbr hown.out hg1 hgo)
          clear hc1 hg1 hcu hgb hown
          go_wp2_with fail
          refine (l01Below_any _ g B a len cap 256 (by omega) HC1.out).mono ?_
          rintro e w2 ⟨x4, rfl, x40, x41, hc2, hg2⟩
          have hgw2 : g < w2.heap.size := hc2.2.1
          have hal2 : Below w2.heap.size w2 (w2.alloc (.cells #[.int .i64 0, .int .i64 1, .int .i64 2, .int .i64 x3, .int .i64 x4] 3)) := (Below.refl _ _).alloc (Nat.le_refl _) _
          have HC2 := Shut.mk (hc2.below hal2)
          have HG2 := Shut.mk (gb_two (gb_two HG1.out hg2) (gb_below (row := some g) hal2))
          have HO2 := Shut.mk ((own_gbr HO1.out hg2 hgo).alloc (.cells #[.int .i64 0, .int .i64 1, .int .i64 2, .int .i64 x3, .int .i64 x4] 3))
          clear hc2 hg2 HC1 HG1 HO1 hal2
          have HPI := Shut.mk (five_ints w2 3 In8 0 1 2 x3 x4 (by omega) (by omega) (by omega) (by omega) (by omega))
          go_wp2_with fail
          refine (l01PickInt_in In8 _ g B a len cap w2.heap.size 5 (by omega) (by omega) (by omega) HPI.out HC2.out).mono ?_
          rintro e w3 ⟨y, rfl, hy, hc3, hg3⟩
          have HC3 := Shut.mk hc3
          have HG3 := Shut.mk (gb_two HG2.out hg3)
          have hown3 := own_gbr HO2.out hg3 hgo
          have hs3 : wo.heap.size ≤ w3.heap.size := HG3.out.size
          have HY := Shut.mk hy
          clear hc3 hg3 HC2 HG2 HO2 hy HPI
          go_wp2_with (at_builtin; refine wpList_append_own _ rfl _ _ 33 rfl wo.heap.size 3 i1 (.int .i64 0) 1 8 Try.underlying33 hi1 hy0 hy1 hy2 rfl (by decide) _ _ _ rfl (hown3.alloc _) ⟨w3.heap.size, 0, none⟩ 1 1 [.int .i64 y] rfl rfl (cell_one_new _ _ _) ?c2 ?c3 ?c4 ?c5 ?_)
          case c2 => first | rfl | (intro u hu; simp at hu; subst hu; rfl)
          case c3 => unfold maxLen; omega
          case c4 => omega
          case c5 => first | omega | (simp; omega)
          intro v' w4 hown' hgrow _
          obtain ⟨q1, q2⟩ := row_step (Nat.le_refl _) hgo (gb_below (Below.refl _ _)) HG3.out HC3.out hown3 hgrow
          have q3 : w4.ownsRow wo.heap.size 3 1 v' (k + 1) (ics (l ++ [y])) := by
            have : ics (l ++ [y]) = ics l ++ [.int .i64 y] := by simp [ics]
            rw [this]; exact hown'
          have Q1 := Shut.mk q1
          have Q2 := Shut.mk q2
          have Q3 := Shut.mk q3
          clear hown' hgrow hown3 q1 q2 q3
          go_wp2_with fail
          go_roundw
          case rel => exact ⟨k + 1, l ++ [y], v', rfl, by go_num, by omega, by have := HL.out; simp; omega, ⟨fun z hz => by rcases List.mem_append.1 hz with h | h; exact hlx.out z h; simp at h; subst h; exact HY.out⟩, Q3, Q1, Q2⟩
          case measure => simp [intOf]; omega
        · have e : k = n := by omega
          have hkl' : ¬ (k : Int) < (n : Int) := by omega
          have hown2 := hown.out
          rw [e] at hown2
          obtain ⟨gr, cr, rfl, hcr⟩ := own_some hown2 (by omega)
          have hgr := hown2.lt gr rfl
          have HROW := Shut.mk (own_wcells hown2)
          have HBJ := Shut.mk (hbj.out.drawn hgb.out hgw)
          have HNEW : Shut ((∀ q, v.ownBlock = some q → q ≠ gr) ∧ ∀ s ∈ ts, s.loc ≠ some ⟨gr, 0, none⟩) := ⟨fun q hq => by have := (hbj.out.own.lt q hq).2; omega, fun s hs e => by obtain ⟨b', e', _, q, _⟩ := hbj.out.rows s hs; have : b' = gr := congrArg Addr.block (Option.some.inj (e'.symm.trans e)); have := q.1; omega⟩
          have hsi : wo.heap.size ≤ wi.heap.size := hgb.out.size
          have hgr1 := hgr.1
          have hown := HBJ.out.own
          clear hown2 hgb hbj hgr
          go_wp2_with (at_builtin; refine wpList_append_own _ rfl _ _ 24 rfl w.heap.size 33 i0 (.slice none 0 0) 1 24 Try.underlying24 hi0 hz0 hz1 hz2 rfl (by decide) _ _ _ rfl (hown.alloc _) ⟨wi.heap.size, 0, none⟩ 1 1 [.slice (some ⟨gr, 0, none⟩) n cr] rfl rfl (cell_one_new _ _ _) ?c2 ?c3 ?c4 ?c5 ?_)
          case c2 => first | rfl | (intro u hu; simp at hu; subst hu; rfl)
          case c3 => unfold maxLen; have := HI.out; omega
          case c4 => have := HI.out; omega
          case c5 => first | omega | (simp; omega)
          intro v' w6 hown' hgrow _
          have hlen : l.length = n := by rw [HL.out, e]
          have hnil : l ≠ [] := fun e => by rw [e] at hlen; simp at hlen; omega
          have hal : Below wi.heap.size wi (wi.alloc (.cells #[.slice (some ⟨gr, 0, none⟩) n cr] 33)) := (Below.refl _ _).alloc (Nat.le_refl _) _
          have hap := HBJ.out.append (cap := cr) (by omega) HROW.out hnil (by rw [hlen]; exact hcr) HNEW.out.1 HNEW.out.2 (by rw [hlen]; exact hown') hgrow
          have hcu6 : Cur w6 g B a len cap := by
            have h1 := hcu.out.below hal
            exact cur_grown h1 hgrow hgw (by have := hal.size; omega) (fun q hq => (hown.lt q hq).1)
          have HAP := Shut.mk hap
          have HCU := Shut.mk hcu6
          have HR2 : Shut (∀ x ∈ rws (ts ++ [SR.mk (some ⟨gr, 0, none⟩) l cr]), x.length = n ∧ ∀ y ∈ x, In8 y) := ⟨fun x hx => by
            rw [rws_snoc] at hx
            rcases List.mem_append.1 hx with h | h
            · exact hr.out x h
            · simp at h; subst h; exact ⟨hlen, hlx.out⟩⟩
          clear hap hcu6 hal hown' hgrow hown HBJ HROW HNEW hr hlen hnil hcu e
          go_wp2_with fail
          go_roundw
          case rel => exact ⟨_, v', rfl, by rw [List.length_append, List.length_singleton, ← HI.out]; go_num, by rw [List.length_append, List.length_singleton, ← HI.out]; omega, HR2, HAP, HCU⟩
          case measure => simp [intOf]; omega
    · have e : i = n := by omega
      have hlt' : ¬ (i : Int) < (n : Int) := by omega
      have HF := Shut.mk (hbj.out.fin rfl)
      have HSQ : Shut (Sq n (rws ts)) := ⟨⟨by rw [rws_len, ← HI.out, e], hr.out⟩⟩
      have HG := Shut.mk hbj.out.gb
      clear e hbj hr
      go_wp2_with fail
      go_ret
      exact ⟨v, _, rfl, HSQ.out, HF.out, hcu.out, HG.out⟩
/-- Three squares that are drawn. -/
def SquaresDrawn (w : World) (e : Ending) (w' : World) : Prop :=
  ∃ (n : Nat) (v1 v2 v3 : Value) (X Y Z : List (List Int)), e = .returned (.tuple #[v1, v2, v3]) ∧ 1 ≤ n ∧ n ≤ 3 ∧ Sq n X ∧ Sq n Y ∧ Sq n Z ∧ MAns w' v1 X w.heap.size w'.heap.size ∧ MAns w' v2 Y w.heap.size w'.heap.size ∧ MAns w' v3 Z w.heap.size w'.heap.size ∧ Below w.heap.size w w'
theorem MAns.wide {w : World} {v : Value} {X : List (List Int)} {lo hi lo' hi' : Nat} (h : MAns w v X lo hi) (h1 : lo' ≤ lo) (h2 : hi ≤ hi') : MAns w v X lo' hi' := by
  obtain ⟨a, cap, ss, e, hr, hc, q⟩ := h
  refine ⟨a, cap, ss, e, hr, hc, ?_⟩
  rcases q with rfl | ⟨g, rfl, hm⟩
  · exact .inl rfl
  · exact .inr ⟨g, rfl, hm.wide h1 h2⟩
theorem MAns.drawn {w w' : World} {v : Value} {X : List (List Int)} {lo hi g : Nat} (h : MAns w v X lo hi) (hg : w.grownBy w' (some g)) (hl : g < lo) : MAns w' v X lo hi :=
  h.turned (Turned.of_grown (lo := g) (hi := g + 1) hg (Nat.le_refl _) (by omega)) (.inr hl)
set_option maxRecDepth 100000 in
set_option maxHeartbeats 1000000 in
theorem drawSquares_any (w : World) (a : Option Addr) (len cap : Nat) (hc : CodeAt w w.heap.size a len) : Calls Try.prog 12 #[.slice a len cap] w fun e w' => SquaresDrawn w e w' := by
  have HC : Hid (CodeAt w w.heap.size a len) := hc
  clear hc
  go_enter Try.func12, Try.ntmps12
  go_wp2_with fail
  refine (l01New_any _ a len cap HC.out).mono ?_
  rintro e w0 ⟨g, rfl, hg, hcur, hb0⟩
  have HC0 := Shut.mk hcur
  have HB0 := Shut.mk hb0
  clear hcur hb0
  go_wp2_with fail
  refine (l01Below_any _ g _ a len cap 3 (by omega) HC0.out).mono ?_
  rintro e w1 ⟨x, rfl, x0, x1, hc1, hg1⟩
  obtain ⟨m, rfl⟩ := Int.eq_ofNat_of_zero_le x0
  have HC1 := Shut.mk hc1
  have HB1 := Shut.mk (HB0.out.trans (below_gb hg1 hg HB0.out.size))
  have hm3 : m + 1 ≤ 3 := by omega
  have hgw : g < w1.heap.size := hc1.2.1
  obtain ⟨n, hn⟩ : ∃ n : Nat, n = m + 1 := ⟨_, rfl⟩
  have hni : (1 : Int) + (m : Int) = (n : Int) := by omega
  have hn1 : 1 ≤ n := by omega
  have hn3 : n ≤ 3 := by omega
  clear hc1 hg1 HC0 HB0 hn
  go_wp2_with fail
  refine (l06Square_any _ g _ a len cap n hn1 (by omega) HC1.out).mono ?_
  rintro e w2 ⟨v1, X, rfl, hX, hv1, hc2, hg2⟩
  have HC2 := Shut.mk hc2
  have HB2 := Shut.mk (HB1.out.trans (below_gb hg2 hg HB1.out.size))
  have F1 := Shut.mk hv1
  have HX := Shut.mk hX
  have s2 := hg2.size
  clear hc2 hg2 hv1 hX HC1
  go_wp2_with fail
  refine (l06Square_any _ g _ a len cap n hn1 (by omega) HC2.out).mono ?_
  rintro e w3 ⟨v2, Y, rfl, hY, hv2, hc3, hg3⟩
  have HC3 := Shut.mk hc3
  have HB3 := Shut.mk (HB2.out.trans (below_gb hg3 hg HB2.out.size))
  replace F1 := Shut.mk (F1.out.drawn hg3 hgw)
  have F2 := Shut.mk hv2
  have HY := Shut.mk hY
  have s3 := hg3.size
  clear hc3 hg3 hv2 hY HC2
  go_wp2_with fail
  refine (l06Square_any _ g _ a len cap n hn1 (by omega) HC3.out).mono ?_
  rintro e w4 ⟨v3, Z, rfl, hZ, hv3, hc4, hg4⟩
  have HB4 := Shut.mk (HB3.out.trans (below_gb hg4 hg HB3.out.size))
  replace F1 := Shut.mk (F1.out.drawn hg4 hgw)
  replace F2 := Shut.mk (F2.out.drawn hg4 (by omega))
  have F3 := Shut.mk hv3
  have HZ := Shut.mk hZ
  have s4 := hg4.size
  have s1 := HB1.out.size
  clear hc4 hg4 hv3 hZ HC3
  go_wp2_with fail
  go_ret3
  exact ⟨n, v1, v2, v3, X, Y, Z, rfl, hn1, hn3, HX.out, HY.out, HZ.out, F1.out.wide (by omega) (by omega), F2.out.wide (by omega) (by omega), F3.out.wide (by omega) (by omega), HB4.out⟩
end Go.Proofs.Ytdpcndbfbmphjaa
