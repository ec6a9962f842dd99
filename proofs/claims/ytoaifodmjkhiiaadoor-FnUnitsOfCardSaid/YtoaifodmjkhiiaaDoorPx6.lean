/- Texts of ours, laid one behind the other: SpK, SpnB, TvA, StrV, SpnC, SpnD, SpnF, NestB, NestC. -/
import Derived.Test.YtoaifodmjkhiiaaDoorPx5
import Derived.Deep.AppendLies
import Derived.PlainAid
/- SpK: The model's PutUnit (written by gen/mkput.py). -/
namespace Go.Proofs.YtoaifodmjkhiiaaDoor
set_option maxRecDepth 100000
open Go.RowKit BigFrame
attribute [local go_sem ↓] Go.wp_at_zero Go.wp_at_succ

theorem uns_snoc (us : List UnM) (u : UnM) : unS (us ++ [u]) = unS us ++ unC u := by simp [unS]
theorem filter_tk {α : Type} (f : α → Bool) (L : List α) (k : Nat) (h : k < L.length) : (L.take (k + 1)).filter f = (L.take k).filter f ++ if f L[k] = true then [L[k]] else [] := by
  rw [List.take_succ_eq_append_getElem h, List.filter_append]
  congr 1
  split <;> simp [*]
/-- A host and a flag: a host whose row is its own. -/
def HbPost (r : HM × Bool) (w : World) (e : Ending) (w' : World) : Prop := ∃ a cap, e = .returned (.tuple #[hov r.1 a cap, .bool r.2]) ∧ FRw w' a (unS r.1.us) w.heap.size w'.heap.size ∧ r.1.us.length ≤ cap ∧ Below w.heap.size w w'
theorem put_fits {us : List UnM} {u : UnM} (h : UnFits us) (hu : UnFit u) (hl : us.length ≤ 1048576) : UnFits (putL us u) := by
  unfold putL
  have l1 := List.length_filter_le (unLt · u) us
  have l2 := List.length_filter_le (unLt u ·) us
  refine ⟨by simp only [List.length_append, List.length_singleton]; omega, fun x hx => ?_⟩
  simp only [List.mem_append, List.mem_filter, List.mem_singleton] at hx
  rcases hx with (hx | rfl) | hx
  · exact h.2 x hx.1
  · exact hu
  · exact h.2 x hx.1
theorem frw_wide {W : World} {va : Option Addr} {X : List Value} {lo hi lo' hi' : Nat} (h : FRw W va X lo hi) (h1 : lo' ≤ lo) (h2 : hi ≤ hi') : FRw W va X lo' hi' := by
  rcases h with e | ⟨g, e, q1, q2, q3⟩
  · exact .inl e
  · exact .inr ⟨g, e, by omega, by omega, q3⟩
set_option maxRecDepth 100000 in
set_option maxHeartbeats 8000000 in
theorem specPutUnit (H : HM) (a : Option Addr) (cap : Nat) (u : UnM) (w : World) (hr : UnRow w a H.us) (hl : H.us.length ≤ 1048576) (hf : UnFits H.us) (hu : UnFit u) (ht : u.text.size ≤ 1048576) :
    Calls Tryd.prog 51 #[hov H a cap, unv u] w fun e w' => HbPost (putX H u) w e w' := by
  obtain ⟨i0, hin, hz0, hz1, hz2⟩ := info_parts infoUnit
  have HR := Shut.mk hr
  have HCP := Shut.mk (fun (W : World) (hb : Below w.heap.size w W) => specCopy14 H a cap W (hr.stays hb) (by omega))
  have HO1 := Shut.mk (fun (W : World) (hb : Below w.heap.size w W) => specHostOk H a cap W (hr.stays hb) (by omega) hf)
  have HPF := Shut.mk (put_fits (u := summed u) hf ⟨hu.1, hu.2.1, hu.2.2.1, by have := sumN_low u.text; show -9223372036854775808 ≤ sumN u.text ∧ sumN u.text ≤ 9223372036854775807; omega⟩ (by omega))
  have HSU := Shut.mk (fun W => specSumText u.text W ht)
  unfold HoPost at HCP
  obtain ⟨id, up, us⟩ := H
  obtain ⟨ug, ui, ut, us0⟩ := u
  obtain ⟨RR, hRR⟩ : ∃ q, q = putX ⟨id, up, us⟩ ⟨ug, ui, ut, us0⟩ := ⟨_, rfl⟩
  rw [← hRR]
  have HQ := Shut.mk hRR
  unfold putX summed at HQ
  dsimp only [summed] at HPF HQ
  show Calls Tryd.prog 51 #[.agg #[.int .i64 id, .bool up, .slice a us.length cap], .agg #[.int .i64 ug, .int .i64 ui, .string ut, .int .i64 us0]] w fun e w' => HbPost RR w e w'
  dsimp only [hov] at *
  generalize sumN ut = sn at *
  obtain ⟨P, hP⟩ : ∃ q, q = putL us ⟨ug, ui, ut, sn⟩ := ⟨_, rfl⟩
  rw [← hP] at HQ HPF
  have HO2 := Shut.mk (fun (W : World) (b : Option Addr) (c : Nat) (hp : P.length ≤ 9000000) (h : UnRow W b P) => specHostOk ⟨id, up, P⟩ b c W h hp HPF.out)
  obtain ⟨ok1, hk1⟩ : ∃ q, q = hostOk ⟨id, up, us⟩ := ⟨_, rfl⟩
  obtain ⟨ok2, hk2⟩ : ∃ q, q = hostOk ⟨id, up, P⟩ := ⟨_, rfl⟩
  rw [← hk1] at HQ HO1
  rw [← hk2] at HQ HO2
  have HP := Shut.mk hP
  obtain ⟨n, hn⟩ : ∃ n, n = us.length := ⟨_, rfl⟩
  have HN := Shut.mk hn
  dsimp only [hov] at HO2
  rw [← hn] at HCP HO1 hl ⊢
  clear hr hf hu ht hRR hP hk1 hk2 hn HPF
  have HS0 := Shut.mk ((((SL.start w).new #[.int .i64 id, .bool up, .slice a n cap] 46).new #[.int .i64 ug, .int .i64 ui, .string ut, .int .i64 us0] 65).new #[.int .i64 0, .bool false, .slice none 0 0] 46)
  simp only [World.size_alloc] at HS0
  go_enter Tryd.func51, Tryd.ntmps51
  go_upto_region 1 with fail
  refine wp_shade (fun W => SL w W [bxS (w.heap.size + 1 + 1) [.int .i64 0, .bool false, .slice none 0 0], bxS (w.heap.size + 1) [.int .i64 ug, .int .i64 ui, .string ut, .int .i64 us0], bxS w.heap.size [.int .i64 id, .bool up, .slice a n cap]]) HS0.out ?_
  intro W0 hW
  have H := Shut.mk hW
  clear HS0 hW
  have x0 := (H.out.bx 2 rfl 0 _ rfl).1
  have x1 := (H.out.bx 2 rfl 1 _ rfl).1
  have x2 := (H.out.bx 2 rfl 2 _ rfl).1
  go_upto_region 2 with (go_at_call 64; refine (HCP.out _ H.out.bel).mono ?_; rintro e w1 ⟨ac, cc, rfl, hF, hcc, hb⟩; have HS1 := Shut.mk (H.out.add (s := rwS ac (unS us) W0.heap.size w1.heap.size) hb hF (rwS.loc _ _ _ _) (Nat.le_refl _) (Nat.le_refl _)); clear hF hb H x0 x1 x2)
  generalize W0.heap.size = lc at HS1
  obtain ⟨hc9, hhc⟩ : ∃ q, q = w1.heap.size := ⟨_, rfl⟩
  rw [← hhc] at HS1
  clear hhc
  obtain ⟨b6, hb6⟩ : ∃ q, q = w1.heap.size := ⟨_, rfl⟩
  refine wp_shade (fun W => SL w W [bxS b6 [.int .i64 id, .bool up, .slice ac n cc], rwS ac (unS us) lc hc9, bxS (w.heap.size + 1 + 1) [.int .i64 0, .bool false, .slice none 0 0], bxS (w.heap.size + 1) [.int .i64 ug, .int .i64 ui, .string ut, .int .i64 us0], bxS w.heap.size [.int .i64 id, .bool up, .slice a n cap]]) (by rw [hb6]; exact HS1.out.new _ _) ?_
  intro W2 hW
  have H := Shut.mk hW
  rw [← hb6]
  clear hW hb6 HS1
  have x2 := (H.out.bx 3 rfl 2 _ rfl).1
  have z3 := H.out.bx 3 rfl 3 _ rfl
  obtain ⟨z3, z3z⟩ := z3
  go_upto_region 3 with (go_at_call 38; refine (HSU.out _).mono ?_; rintro e w2 ⟨rfl, rfl⟩)
  have HS3 := Shut.mk (H.out.put 3 rfl 3 (.int .i64 sn) (by simp))
  simp only [List.set_cons_zero, List.set_cons_succ] at HS3
  refine wp_shade (fun W => SL w W [bxS b6 [.int .i64 id, .bool up, .slice ac n cc], rwS ac (unS us) lc hc9, bxS (w.heap.size + 1 + 1) [.int .i64 0, .bool false, .slice none 0 0], bxS (w.heap.size + 1) [.int .i64 ug, .int .i64 ui, .string ut, .int .i64 sn], bxS w.heap.size [.int .i64 id, .bool up, .slice a n cap]]) HS3.out ?_
  intro W3 hW
  have H := Shut.mk hW
  clear hW HS3 x2 z3 z3z
  have HOLD := Shut.mk (OwS.new (ty := 65) (sz := 4) H.out)
  clear H
  go_upto_region 4 with fail
  refine wp_shade (fun W => OwS w W [bxS b6 [.int .i64 id, .bool up, .slice ac n cc], rwS ac (unS us) lc hc9, bxS (w.heap.size + 1 + 1) [.int .i64 0, .bool false, .slice none 0 0], bxS (w.heap.size + 1) [.int .i64 ug, .int .i64 ui, .string ut, .int .i64 sn], bxS w.heap.size [.int .i64 id, .bool up, .slice a n cap]] 65 4 (.slice (some ⟨W3.heap.size, 0, none⟩) 0 0) 0 []) HOLD.out ?_
  intro W4 hW
  clear HOLD
  have HOLD := Shut.mk hW
  clear hW
  go_wp2_with fail
  go_loopw [7, 8] (fun v9 i9 wr => ∃ (k m : Nat) (L : List UnM), i9 = .int .i64 k ∧ k ≤ n ∧ m ≤ k ∧ Shut (L = ((us.take k).filter (unLt · ⟨ug, ui, ut, sn⟩)) ∧ m = L.length) ∧ Shut (OwS w wr [bxS b6 [.int .i64 id, .bool up, .slice ac n cc], rwS ac (unS us) lc hc9, bxS (w.heap.size + 1 + 1) [.int .i64 0, .bool false, .slice none 0 0], bxS (w.heap.size + 1) [.int .i64 ug, .int .i64 ui, .string ut, .int .i64 sn], bxS w.heap.size [.int .i64 id, .bool up, .slice a n cap]] 65 4 v9 m (unS L))) (fun _ i9 _ => n - (intOf i9).toNat)
  case atStart => exact ⟨0, 0, [], rfl, Nat.zero_le _, Nat.le_refl _, ⟨by simp⟩, HOLD⟩
  case round =>
    clear HOLD
    obtain ⟨k, m, L, rfl, hk, hm, HL, HW⟩ := hrel
    obtain ⟨av, cv, rfl⟩ := own_row_slice HW.out.own
    have x2 := (HW.out.sl.bx 4 rfl 2 _ rfl).1
    by_cases hlt : k < n
    · have hku : k < us.length := by rw [← HN.out]; exact hlt
      obtain ⟨b, off, x, rfl, hx, lb, hc⟩ := un_at HR.out HW.out.sl.bel hku
      have lw := (show WCells wr w.heap.size _ from HW.out.sl.at 4 rfl).1
      have lu := (show WCells wr (w.heap.size + 1) _ from HW.out.sl.at 3 rfl).1
      have k0 : (0 : Int) ≤ (k : Int) := by omega
      have k1 : (k : Int) < (n : Int) := by omega
      have gx : ∀ X : Grow wr, X.val.cell? ⟨w.heap.size, 2, none⟩ = some (.slice (some ⟨b, off, none⟩) n cap) := fun X => X.cell x2 lw
      have u0 : ∀ X : Grow wr, X.val.cell? ⟨w.heap.size + 1, 0, none⟩ = some (.int .i64 ug) := fun X => X.cell (HW.out.sl.bx 3 rfl 0 _ rfl).1 lu
      have u1 : ∀ X : Grow wr, X.val.cell? ⟨w.heap.size + 1, 1, none⟩ = some (.int .i64 ui) := fun X => X.cell (HW.out.sl.bx 3 rfl 1 _ rfl).1 lu
      have u2 : ∀ X : Grow wr, X.val.cell? ⟨w.heap.size + 1, 2, none⟩ = some (.string ut) := fun X => X.cell (HW.out.sl.bx 3 rfl 2 _ rfl).1 lu
      have u3 : ∀ X : Grow wr, X.val.cell? ⟨w.heap.size + 1, 3, none⟩ = some (.int .i64 sn) := fun X => X.cell (HW.out.sl.bx 3 rfl 3 _ rfl).1 lu
      have p0 : ∀ X : Grow wr, X.val.cell? ⟨b, off + k * 4, none⟩ = some (.int .i64 x.group) := fun X => (hc X.val X.bel).1
      have p1 : ∀ X : Grow wr, X.val.cell? ⟨b, off + k * 4 + 1, none⟩ = some (.int .i64 x.index) := fun X => (hc X.val X.bel).2.1
      have p2 : ∀ X : Grow wr, X.val.cell? ⟨b, off + k * 4 + 2, none⟩ = some (.string x.text) := fun X => (hc X.val X.bel).2.2.1
      have p3 : ∀ X : Grow wr, X.val.cell? ⟨b, off + k * 4 + 3, none⟩ = some (.int .i64 x.sum) := fun X => (hc X.val X.bel).2.2.2
      have HAH := Shut.mk (fun X => calls_grow (w := wr) (fun W' (_ : Below wr.heap.size wr W') => specAhead x ⟨ug, ui, ut, sn⟩ W') X)
      have HNX : Shut ((us.take (k + 1)).filter (unLt · ⟨ug, ui, ut, sn⟩) = (us.take k).filter (unLt · ⟨ug, ui, ut, sn⟩) ++ if unLt x ⟨ug, ui, ut, sn⟩ = true then [x] else []) := ⟨by rw [hx]; exact filter_tk _ us k hku⟩
      have HC := Shut.mk hc
      clear hc hx lw lu
      go_upto_region 7 with fail
      clear x2
      cases hal : unLt x ⟨ug, ui, ut, sn⟩ with
      | false =>
        rw [hal] at HAH HNX
        refine wp_region_grow (by kernel_rfl) (by kernel_rfl) ?_
        repeat (go_big_quiet_step (first | (go_at_call 66; with_reducible exact HAH.out _)))
        refine wpQuiet_nil ?_
        rintro _ ⟨X, rfl⟩
        have H2 := Shut.mk (HW.out.below X.bel)
        clear gx u0 u1 u2 u3 p0 p1 p2 p3
        go_wp2_with fail
        go_roundw
        case rel => exact ⟨k + 1, m, L, by go_num, by omega, by omega, ⟨by rw [HNX.out]; simpa using HL.out⟩, H2⟩
        case measure => simp [intOf]; omega
      | true =>
        rw [hal] at HAH HNX
        refine wp_region_grow (by kernel_rfl) (by kernel_rfl) ?_
        repeat (go_big_quiet_step (first | (go_at_call 66; with_reducible exact HAH.out _)))
        refine wpQuiet_nil ?_
        rintro _ ⟨X, rfl⟩
        have H2 := Shut.mk (HW.out.below X.bel)
        have y2 := gx X
        have d0 := p0 X
        have d1 := p1 X
        have d2 := p2 X
        have d3 := p3 X
        have lbX : b < X.val.heap.size := Nat.lt_of_lt_of_le lb (Nat.le_trans HW.out.sl.bel.size X.bel.size)
        clear gx u0 u1 u2 u3 p0 p1 p2 p3
        obtain ⟨W2, hb2⟩ := X
        dsimp only at *
        have hown := H2.out.own
        have hbs := H2.out.sl.bel.size
        go_wp2_with (at_builtin; refine wpList_append_own_at _ rfl _ _ 44 rfl w.heap.size 65 i0 _ 4 40 Tryd.underlying44 hin hz0 hz1 hz2 rfl (by decide) _ _ _ rfl (hown.alloc _) ⟨W2.heap.size, 0, none⟩ 1 1 [.int .i64 x.group, .int .i64 x.index, .string x.text, .int .i64 x.sum] rfl rfl (World.news_of_block (cs := #[.int .i64 x.group, .int .i64 x.index, .string x.text, .int .i64 x.sum]) (t := 65) (fr := (0, 0)) (heap_alloc_new W2 _)) ?c25 ?c35 ?c45 ?c55 ?_)
        case c25 => simp [Value.oneCell']
        case c35 => unfold maxLen; omega
        case c45 => omega
        case c55 => first | omega | (simp; omega)
        intro v5 w5 ho hg _ hat
        have HL5 := Shut.mk (H2.out.more ((Below.refl _ _).alloc (Nat.le_refl _) _) ho hg (by simpa using hat))
        clear ho hg hat hown hbs
        go_wp2_with fail
        go_roundw
        case rel => exact ⟨k + 1, m + 1, L ++ [x], by go_num, by omega, by omega, ⟨⟨by rw [HNX.out]; simp only [if_true]; rw [← HL.out.1], by rw [List.length_append, ← HL.out.2]; rfl⟩⟩, ⟨by rw [uns_snoc]; exact HL5.out⟩⟩
        case measure => simp [intOf]; omega
    · obtain rfl : n = k := by omega
      have HLN : Shut (L = (us.filter (unLt · ⟨ug, ui, ut, sn⟩)) ∧ m = L.length) := ⟨by have := HL.out; rwa [List.take_of_length_le (by have := HN.out; omega)] at this⟩
      clear HL hlt
      have HL1N := HLN
      clear HLN
      obtain ⟨L1, hL1⟩ : ∃ q, q = L ++ [(⟨ug, ui, ut, sn⟩ : UnM)] := ⟨_, rfl⟩
      obtain ⟨m1, hm1⟩ : ∃ q, q = m + 1 := ⟨_, rfl⟩
      have u0 := (HW.out.sl.bx 3 rfl 0 _ rfl).1
      have u1 := (HW.out.sl.bx 3 rfl 1 _ rfl).1
      have u2 := (HW.out.sl.bx 3 rfl 2 _ rfl).1
      have u3 := (HW.out.sl.bx 3 rfl 3 _ rfl).1
      have hown := HW.out.own
      have hbs := HW.out.sl.bel.size
      go_wp2_with (at_builtin; refine wpList_append_own_at _ rfl _ _ 44 rfl w.heap.size 65 i0 _ 4 40 Tryd.underlying44 hin hz0 hz1 hz2 rfl (by decide) _ _ _ rfl (hown.alloc _) ⟨wr.heap.size, 0, none⟩ 1 1 [.int .i64 ug, .int .i64 ui, .string ut, .int .i64 sn] rfl rfl (World.news_of_block (cs := #[.int .i64 ug, .int .i64 ui, .string ut, .int .i64 sn]) (t := 65) (fr := (0, 0)) (heap_alloc_new wr _)) ?c27 ?c37 ?c47 ?c57 ?_)
      case c27 => simp [Value.oneCell']
      case c37 => unfold maxLen; omega
      case c47 => omega
      case c57 => first | omega | (simp; omega)
      intro v7 w7 ho hg _ hat
      have HL7 := Shut.mk (HW.out.more ((Below.refl _ _).alloc (Nat.le_refl _) _) ho hg (by simpa using hat))
      clear ho hg hat hown hbs
      replace HL1N : Shut (L1 = us.filter (unLt · ⟨ug, ui, ut, sn⟩) ++ [(⟨ug, ui, ut, sn⟩ : UnM)] ∧ m1 = L1.length) := ⟨by rw [hL1, hm1, List.length_append, ← HL1N.out.2, HL1N.out.1]; exact ⟨rfl, rfl⟩⟩
      have HOLD : Shut (OwS w w7 [bxS b6 [.int .i64 id, .bool up, .slice ac n cc], rwS ac (unS us) lc hc9, bxS (w.heap.size + 1 + 1) [.int .i64 0, .bool false, .slice none 0 0], bxS (w.heap.size + 1) [.int .i64 ug, .int .i64 ui, .string ut, .int .i64 sn], bxS w.heap.size [.int .i64 id, .bool up, .slice a n cap]] 65 4 v7 m1 (unS L1)) := ⟨by rw [hL1, hm1, uns_snoc]; exact HL7.out⟩
      have hm9 : m1 ≤ n + 1 := by omega
      clear hL1 hm1 HL7 HW u0 u1 u2 u3 x2 hm
      go_wp2_with fail
      go_loopw [7, 9] (fun v9 i9 wr => ∃ (k m : Nat) (L : List UnM), i9 = .int .i64 k ∧ k ≤ n ∧ m ≤ m1 + k ∧ Shut (L = L1 ++ ((us.take k).filter (unLt ⟨ug, ui, ut, sn⟩ ·)) ∧ m = L.length) ∧ Shut (OwS w wr [bxS b6 [.int .i64 id, .bool up, .slice ac n cc], rwS ac (unS us) lc hc9, bxS (w.heap.size + 1 + 1) [.int .i64 0, .bool false, .slice none 0 0], bxS (w.heap.size + 1) [.int .i64 ug, .int .i64 ui, .string ut, .int .i64 sn], bxS w.heap.size [.int .i64 id, .bool up, .slice a n cap]] 65 4 v9 m (unS L))) (fun _ i9 _ => n - (intOf i9).toNat)
      case atStart => exact ⟨0, m1, L1, rfl, Nat.zero_le _, Nat.le_refl _, ⟨by simpa using HL1N.out.2⟩, HOLD⟩
      case round =>
        clear HOLD
        obtain ⟨k, m, L, rfl, hk, hm, HL, HW⟩ := hrel
        obtain ⟨av, cv, rfl⟩ := own_row_slice HW.out.own
        have x2 := (HW.out.sl.bx 4 rfl 2 _ rfl).1
        by_cases hlt : k < n
        · have hku : k < us.length := by rw [← HN.out]; exact hlt
          obtain ⟨b, off, x, rfl, hx, lb, hc⟩ := un_at HR.out HW.out.sl.bel hku
          have lw := (show WCells wr w.heap.size _ from HW.out.sl.at 4 rfl).1
          have lu := (show WCells wr (w.heap.size + 1) _ from HW.out.sl.at 3 rfl).1
          have k0 : (0 : Int) ≤ (k : Int) := by omega
          have k1 : (k : Int) < (n : Int) := by omega
          have gx : ∀ X : Grow wr, X.val.cell? ⟨w.heap.size, 2, none⟩ = some (.slice (some ⟨b, off, none⟩) n cap) := fun X => X.cell x2 lw
          have u0 : ∀ X : Grow wr, X.val.cell? ⟨w.heap.size + 1, 0, none⟩ = some (.int .i64 ug) := fun X => X.cell (HW.out.sl.bx 3 rfl 0 _ rfl).1 lu
          have u1 : ∀ X : Grow wr, X.val.cell? ⟨w.heap.size + 1, 1, none⟩ = some (.int .i64 ui) := fun X => X.cell (HW.out.sl.bx 3 rfl 1 _ rfl).1 lu
          have u2 : ∀ X : Grow wr, X.val.cell? ⟨w.heap.size + 1, 2, none⟩ = some (.string ut) := fun X => X.cell (HW.out.sl.bx 3 rfl 2 _ rfl).1 lu
          have u3 : ∀ X : Grow wr, X.val.cell? ⟨w.heap.size + 1, 3, none⟩ = some (.int .i64 sn) := fun X => X.cell (HW.out.sl.bx 3 rfl 3 _ rfl).1 lu
          have p0 : ∀ X : Grow wr, X.val.cell? ⟨b, off + k * 4, none⟩ = some (.int .i64 x.group) := fun X => (hc X.val X.bel).1
          have p1 : ∀ X : Grow wr, X.val.cell? ⟨b, off + k * 4 + 1, none⟩ = some (.int .i64 x.index) := fun X => (hc X.val X.bel).2.1
          have p2 : ∀ X : Grow wr, X.val.cell? ⟨b, off + k * 4 + 2, none⟩ = some (.string x.text) := fun X => (hc X.val X.bel).2.2.1
          have p3 : ∀ X : Grow wr, X.val.cell? ⟨b, off + k * 4 + 3, none⟩ = some (.int .i64 x.sum) := fun X => (hc X.val X.bel).2.2.2
          have HAH := Shut.mk (fun X => calls_grow (w := wr) (fun W' (_ : Below wr.heap.size wr W') => specAhead ⟨ug, ui, ut, sn⟩ x W') X)
          have HNX : Shut ((us.take (k + 1)).filter (unLt ⟨ug, ui, ut, sn⟩ ·) = (us.take k).filter (unLt ⟨ug, ui, ut, sn⟩ ·) ++ if unLt ⟨ug, ui, ut, sn⟩ x = true then [x] else []) := ⟨by rw [hx]; exact filter_tk _ us k hku⟩
          have HC := Shut.mk hc
          clear hc hx lw lu
          go_upto_region 13 with fail
          clear x2
          cases hal : unLt ⟨ug, ui, ut, sn⟩ x with
          | false =>
            rw [hal] at HAH HNX
            refine wp_region_grow (by kernel_rfl) (by kernel_rfl) ?_
            repeat (go_big_quiet_step (first | (go_at_call 66; with_reducible exact HAH.out _)))
            refine wpQuiet_nil ?_
            rintro _ ⟨X, rfl⟩
            have H2 := Shut.mk (HW.out.below X.bel)
            clear gx u0 u1 u2 u3 p0 p1 p2 p3
            go_wp2_with fail
            go_roundw
            case rel => exact ⟨k + 1, m, L, by go_num, by omega, by omega, ⟨by rw [HNX.out]; simpa using HL.out⟩, H2⟩
            case measure => simp [intOf]; omega
          | true =>
            rw [hal] at HAH HNX
            refine wp_region_grow (by kernel_rfl) (by kernel_rfl) ?_
            repeat (go_big_quiet_step (first | (go_at_call 66; with_reducible exact HAH.out _)))
            refine wpQuiet_nil ?_
            rintro _ ⟨X, rfl⟩
            have H2 := Shut.mk (HW.out.below X.bel)
            have y2 := gx X
            have d0 := p0 X
            have d1 := p1 X
            have d2 := p2 X
            have d3 := p3 X
            have lbX : b < X.val.heap.size := Nat.lt_of_lt_of_le lb (Nat.le_trans HW.out.sl.bel.size X.bel.size)
            clear gx u0 u1 u2 u3 p0 p1 p2 p3
            obtain ⟨W2, hb2⟩ := X
            dsimp only at *
            have hown := H2.out.own
            have hbs := H2.out.sl.bel.size
            go_wp2_with (at_builtin; refine wpList_append_own_at _ rfl _ _ 44 rfl w.heap.size 65 i0 _ 4 40 Tryd.underlying44 hin hz0 hz1 hz2 rfl (by decide) _ _ _ rfl (hown.alloc _) ⟨W2.heap.size, 0, none⟩ 1 1 [.int .i64 x.group, .int .i64 x.index, .string x.text, .int .i64 x.sum] rfl rfl (World.news_of_block (cs := #[.int .i64 x.group, .int .i64 x.index, .string x.text, .int .i64 x.sum]) (t := 65) (fr := (0, 0)) (heap_alloc_new W2 _)) ?c26 ?c36 ?c46 ?c56 ?_)
            case c26 => simp [Value.oneCell']
            case c36 => unfold maxLen; omega
            case c46 => omega
            case c56 => first | omega | (simp; omega)
            intro v6 w6 ho hg _ hat
            have HL6 := Shut.mk (H2.out.more ((Below.refl _ _).alloc (Nat.le_refl _) _) ho hg (by simpa using hat))
            clear ho hg hat hown hbs
            go_wp2_with fail
            go_roundw
            case rel => exact ⟨k + 1, m + 1, L ++ [x], by go_num, by omega, by omega, ⟨⟨by rw [HNX.out]; simp only [if_true]; rw [← List.append_assoc, ← HL.out.1], by rw [List.length_append, ← HL.out.2]; rfl⟩⟩, ⟨by rw [uns_snoc]; exact HL6.out⟩⟩
            case measure => simp [intOf]; omega
        · obtain rfl : n = k := by omega
          have HLN : Shut (L = L1 ++ (us.filter (unLt ⟨ug, ui, ut, sn⟩ ·)) ∧ m = L.length) := ⟨by have := HL.out; rwa [List.take_of_length_le (by have := HN.out; omega)] at this⟩
          clear HL hlt
          have hz := HW.out.sl.bx 4 rfl 0 _ rfl
          have x0 := (HW.out.sl.bx 4 rfl 0 _ rfl).1
          have x1 := (HW.out.sl.bx 4 rfl 1 _ rfl).1
          have HPE : Shut (P = L ∧ m = P.length) := ⟨by
            have e : P = L := by rw [HP.out, HLN.out.1, HL1N.out.1]; unfold putL; rfl
            exact ⟨e, by rw [e]; exact HLN.out.2⟩⟩
          rw [← HPE.out.1] at HW
          clear hz
          go_upto_region 16 with fail
          obtain ⟨b10, hb10⟩ : ∃ q, q = wr.heap.size := ⟨_, rfl⟩
          have HB := Shut.mk (HW.out.box #[.int .i64 id, .bool up, .slice av m cv] 46)
          rw [← hb10] at HB
          refine wp_shade (fun W => OwS w W (bxS b10 [.int .i64 id, .bool up, .slice av m cv] :: [bxS b6 [.int .i64 id, .bool up, .slice ac n cc], rwS ac (unS us) lc hc9, bxS (w.heap.size + 1 + 1) [.int .i64 0, .bool false, .slice none 0 0], bxS (w.heap.size + 1) [.int .i64 ug, .int .i64 ui, .string ut, .int .i64 sn], bxS w.heap.size [.int .i64 id, .bool up, .slice a n cap]]) 65 4 (.slice av m cv) m (unS P)) HB.out ?_
          intro W9 hW
          rw [← hb10]
          have H := Shut.mk hW
          obtain ⟨a8, c8, e8, hrow8, hc8⟩ := H.out.row
          obtain ⟨rfl, rfl⟩ : av = a8 ∧ cv = c8 := by simpa using e8
          have HRW := Shut.mk hrow8
          have HMP : Shut (P.length = m ∧ P.length ≤ 9000000) := ⟨by have := HPE.out.2; omega⟩
          replace HO2 := Shut.mk (fun (W : World) (hb : Below W9.heap.size W9 W) => HO2.out W av cv HMP.out.2 (HRW.out.stays hb))
          rw [HMP.out.1] at HO2
          clear hW hb10 HB HW hrow8 e8 x0 x1 x2
          have x0 := (H.out.sl.bx 5 rfl 0 _ rfl).1
          have x1 := (H.out.sl.bx 5 rfl 1 _ rfl).1
          have x2 := (H.out.sl.bx 5 rfl 2 _ rfl).1
          cases ok1 with
          | false =>
            have HE : Shut (RR = (⟨id, up, us⟩, false)) := ⟨by rw [HQ.out]; simp⟩
            go_upto_region 17 with (first | (go_at_call 67; refine (HO1.out _ H.out.sl.bel).mono ?_; rintro e wa ⟨rfl, hba⟩; have H1 := Shut.mk (H.out.below hba); have HBA := Shut.mk hba; clear hba H x0 x1 x2; have x1 := (H1.out.sl.bx 5 rfl 1 _ rfl).1; have y0 := (H1.out.sl.bx 0 rfl 0 _ rfl).1; have y1 := (H1.out.sl.bx 0 rfl 1 _ rfl).1; have y2 := (H1.out.sl.bx 0 rfl 2 _ rfl).1))
            have z0 := (H1.out.sl.bx 1 rfl 0 _ rfl).1
            have z1 := (H1.out.sl.bx 1 rfl 1 _ rfl).1
            have z2 := (H1.out.sl.bx 1 rfl 2 _ rfl).1
            obtain ⟨r0, r0z⟩ := H1.out.sl.bx 3 rfl 0 _ rfl
            obtain ⟨r1, r1z⟩ := H1.out.sl.bx 3 rfl 1 _ rfl
            obtain ⟨r2, r2z⟩ := H1.out.sl.bx 3 rfl 2 _ rfl
            go_wp2_with fail
            have HE3 := Shut.mk ((((H1.out.put 3 rfl 0 (.int .i64 id) (by simp)).put 3 rfl 1 (.bool up) (by simp)).put 3 rfl 2 (.slice ac n cc) (by simp)))
            refine bodyPost_ret (v := .tuple #[.agg #[.int .i64 id, .bool up, .slice ac n cc], .bool false]) (by simp [results, Tryd.results51, go_sem, r0, r1, r2]) rfl ?_
            rw [HE.out]
            have hs := HE3.out.sl.is _ (List.mem_of_getElem? (show _[2]? = some (rwS ac (unS us) lc hc9) from rfl))
            exact ⟨ac, cc, by rw [HN.out], frw_wide (show FRw _ ac (unS us) lc hc9 from hs.1) hs.2.2.1 hs.2.2.2, by have := HN.out; show us.length ≤ cc; omega, HE3.out.sl.bel⟩
          | true =>
            cases up with
            | false =>
              have HE : Shut (RR = (⟨id, false, us⟩, false)) := ⟨by rw [HQ.out]; simp⟩
              go_upto_region 17 with (first | (go_at_call 67; refine (HO1.out _ H.out.sl.bel).mono ?_; rintro e wa ⟨rfl, hba⟩; have H1 := Shut.mk (H.out.below hba); have HBA := Shut.mk hba; clear hba H x0 x1 x2; have x1 := (H1.out.sl.bx 5 rfl 1 _ rfl).1; have y0 := (H1.out.sl.bx 0 rfl 0 _ rfl).1; have y1 := (H1.out.sl.bx 0 rfl 1 _ rfl).1; have y2 := (H1.out.sl.bx 0 rfl 2 _ rfl).1))
              have z0 := (H1.out.sl.bx 1 rfl 0 _ rfl).1
              have z1 := (H1.out.sl.bx 1 rfl 1 _ rfl).1
              have z2 := (H1.out.sl.bx 1 rfl 2 _ rfl).1
              obtain ⟨r0, r0z⟩ := H1.out.sl.bx 3 rfl 0 _ rfl
              obtain ⟨r1, r1z⟩ := H1.out.sl.bx 3 rfl 1 _ rfl
              obtain ⟨r2, r2z⟩ := H1.out.sl.bx 3 rfl 2 _ rfl
              go_wp2_with fail
              have HE3 := Shut.mk ((((H1.out.put 3 rfl 0 (.int .i64 id) (by simp)).put 3 rfl 1 (.bool false) (by simp)).put 3 rfl 2 (.slice ac n cc) (by simp)))
              refine bodyPost_ret (v := .tuple #[.agg #[.int .i64 id, .bool false, .slice ac n cc], .bool false]) (by simp [results, Tryd.results51, go_sem, r0, r1, r2]) rfl ?_
              rw [HE.out]
              have hs := HE3.out.sl.is _ (List.mem_of_getElem? (show _[2]? = some (rwS ac (unS us) lc hc9) from rfl))
              exact ⟨ac, cc, by rw [HN.out], frw_wide (show FRw _ ac (unS us) lc hc9 from hs.1) hs.2.2.1 hs.2.2.2, by have := HN.out; show us.length ≤ cc; omega, HE3.out.sl.bel⟩
            | true =>
              cases ok2 with
              | false =>
                have HE : Shut (RR = (⟨id, true, us⟩, false)) := ⟨by rw [HQ.out]; simp⟩
                go_upto_region 17 with (first | (go_at_call 67; refine (HO1.out _ H.out.sl.bel).mono ?_; rintro e wa ⟨rfl, hba⟩; have H1 := Shut.mk (H.out.below hba); have HBA := Shut.mk hba; clear hba H x0 x1 x2; have x1 := (H1.out.sl.bx 5 rfl 1 _ rfl).1; have y0 := (H1.out.sl.bx 0 rfl 0 _ rfl).1; have y1 := (H1.out.sl.bx 0 rfl 1 _ rfl).1; have y2 := (H1.out.sl.bx 0 rfl 2 _ rfl).1) | (go_at_call 67; refine (HO2.out _ HBA.out).mono ?_; rintro e wb ⟨rfl, hbb⟩; have H2 := Shut.mk (H1.out.below hbb); clear hbb H1 x1 y0 y1 y2))
                have z0 := (H2.out.sl.bx 1 rfl 0 _ rfl).1
                have z1 := (H2.out.sl.bx 1 rfl 1 _ rfl).1
                have z2 := (H2.out.sl.bx 1 rfl 2 _ rfl).1
                obtain ⟨r0, r0z⟩ := H2.out.sl.bx 3 rfl 0 _ rfl
                obtain ⟨r1, r1z⟩ := H2.out.sl.bx 3 rfl 1 _ rfl
                obtain ⟨r2, r2z⟩ := H2.out.sl.bx 3 rfl 2 _ rfl
                go_wp2_with fail
                have HE3 := Shut.mk ((((H2.out.put 3 rfl 0 (.int .i64 id) (by simp)).put 3 rfl 1 (.bool true) (by simp)).put 3 rfl 2 (.slice ac n cc) (by simp)))
                refine bodyPost_ret (v := .tuple #[.agg #[.int .i64 id, .bool true, .slice ac n cc], .bool false]) (by simp [results, Tryd.results51, go_sem, r0, r1, r2]) rfl ?_
                rw [HE.out]
                have hs := HE3.out.sl.is _ (List.mem_of_getElem? (show _[2]? = some (rwS ac (unS us) lc hc9) from rfl))
                exact ⟨ac, cc, by rw [HN.out], frw_wide (show FRw _ ac (unS us) lc hc9 from hs.1) hs.2.2.1 hs.2.2.2, by have := HN.out; show us.length ≤ cc; omega, HE3.out.sl.bel⟩
              | true =>
                have HE : Shut (RR = (⟨id, true, P⟩, true)) := ⟨by rw [HQ.out]; simp⟩
                go_upto_region 18 with (first | (go_at_call 67; refine (HO1.out _ H.out.sl.bel).mono ?_; rintro e wa ⟨rfl, hba⟩; have H1 := Shut.mk (H.out.below hba); have HBA := Shut.mk hba; clear hba H x0 x1 x2; have x1 := (H1.out.sl.bx 5 rfl 1 _ rfl).1; have y0 := (H1.out.sl.bx 0 rfl 0 _ rfl).1; have y1 := (H1.out.sl.bx 0 rfl 1 _ rfl).1; have y2 := (H1.out.sl.bx 0 rfl 2 _ rfl).1) | (go_at_call 67; refine (HO2.out _ HBA.out).mono ?_; rintro e wb ⟨rfl, hbb⟩; have H2 := Shut.mk (H1.out.below hbb); clear hbb H1 x1 y0 y1 y2))
                have z0 := (H2.out.sl.bx 0 rfl 0 _ rfl).1
                have z1 := (H2.out.sl.bx 0 rfl 1 _ rfl).1
                have z2 := (H2.out.sl.bx 0 rfl 2 _ rfl).1
                obtain ⟨r0, r0z⟩ := H2.out.sl.bx 3 rfl 0 _ rfl
                obtain ⟨r1, r1z⟩ := H2.out.sl.bx 3 rfl 1 _ rfl
                obtain ⟨r2, r2z⟩ := H2.out.sl.bx 3 rfl 2 _ rfl
                go_wp2_with fail
                have HE3 := Shut.mk ((((H2.out.put 3 rfl 0 (.int .i64 id) (by simp)).put 3 rfl 1 (.bool true) (by simp)).put 3 rfl 2 (.slice av m cv) (by simp)))
                obtain ⟨a9, c9, e9, hf9, hc9'⟩ := HE3.out.frw
                obtain ⟨rfl, rfl⟩ : av = a9 ∧ cv = c9 := by simpa using e9
                refine bodyPost_ret (v := .tuple #[.agg #[.int .i64 id, .bool true, .slice av m cv], .bool true]) (by simp [results, Tryd.results51, go_sem, r0, r1, r2]) rfl ?_
                rw [HE.out]
                exact ⟨av, cv, by rw [← HMP.out.1], hf9, by have := HMP.out.1; show P.length ≤ cv; omega, HE3.out.sl.bel⟩
end Go.Proofs.YtoaifodmjkhiiaaDoor
/- SpnB: Rows of numbers as values; the walk of the model's Spans. -/
namespace Go.Proofs.YtoaifodmjkhiiaaDoor
set_option maxRecDepth 100000
open Go.RowKit
attribute [local go_sem ↓] Go.wp_at_zero Go.wp_at_succ

/-- A value that is these numbers, in memory of its own. -/
def IAns (w : World) (v : Value) (xs : List Int) (lo hi : Nat) : Prop := ∃ (a : Option Addr) (cap : Nat), v = .slice a xs.length cap ∧ xs.length ≤ cap ∧ (xs = [] ∨ ∃ g, a = some ⟨g, 0, none⟩ ∧ lo ≤ g ∧ g < hi ∧ WCells w g (ics xs))
theorem IAns.empty (w : World) (a : Option Addr) (cap lo hi : Nat) : IAns w (.slice a 0 cap) [] lo hi := ⟨a, cap, rfl, Nat.zero_le _, .inl rfl⟩
theorem IAns.crow {w : World} {v : Value} {xs : List Int} {lo hi : Nat} (h : IAns w v xs lo hi) : ∃ a cap, v = .slice a xs.length cap ∧ CRow w a (ics xs) := by
  obtain ⟨a, cap, e, _, q⟩ := h
  refine ⟨a, cap, e, ?_⟩
  rcases q with rfl | ⟨g, rfl, _, _, q⟩
  · intro h; simp [ics] at h
  · exact q.crow
theorem IAns.turned {w w' : World} {v : Value} {xs : List Int} {lo hi lo' hi' : Nat} (h : IAns w v xs lo hi) (t : Turned w w' lo' hi') (hd : hi ≤ lo' ∨ hi' ≤ lo) : IAns w' v xs lo hi := by
  obtain ⟨a, cap, e, hc, q⟩ := h
  refine ⟨a, cap, e, hc, ?_⟩
  rcases q with rfl | ⟨g, rfl, h1, h2, h3⟩
  · exact .inl rfl
  · exact .inr ⟨g, rfl, h1, h2, h3.turned t (by omega)⟩
theorem IAns.below {w w' : World} {v : Value} {xs : List Int} {lo hi : Nat} (h : IAns w v xs lo hi) (hb : Below w.heap.size w w') : IAns w' v xs lo hi := by
  obtain ⟨a, cap, e, hc, q⟩ := h
  refine ⟨a, cap, e, hc, ?_⟩
  rcases q with rfl | ⟨g, rfl, h1, h2, h3⟩
  · exact .inl rfl
  · exact .inr ⟨g, rfl, h1, h2, h3.below hb h3.1⟩
def IPost (xs : List Int) (w : World) (e : Ending) (w' : World) : Prop := ∃ v, e = .returned v ∧ IAns w' v xs w.heap.size w'.heap.size ∧ Below w.heap.size w w'
theorem own_ians {w w' : World} {v : Value} {xs : List Int} {n : Nat} (hn : xs.length = n) (h : w'.ownsRow w.heap.size 3 1 v n (ics xs)) : IAns w' v xs w.heap.size w'.heap.size := by
  have hlt := h.lt
  have hown := h
  subst hn
  obtain ⟨_, ⟨rfl, h0⟩ | ⟨g, cap, cur, rfl, hB, hcur, hn, _⟩⟩ := h
  · have : xs = [] := List.eq_nil_of_length_eq_zero h0
    subst this
    exact IAns.empty _ _ _ _ _
  · exact ⟨_, cap, rfl, hn, .inr ⟨g, rfl, hB, (hlt g rfl).2, own_wcells hown⟩⟩
/-- The lengths of the groups of so many bytes. -/
def spanL (S n : Nat) : List Int := List.replicate ((n - 1) / S) (S : Int) ++ [((n - (n - 1) / S * S : Nat) : Int)]
def spansX (s n : Int) : List Int := if schOk s = true ∧ 1 ≤ n ∧ n ≤ 1000 then spanL (groupN s) n.toNat else []
theorem spansX_no {s n : Int} (h : ¬ (schOk s = true ∧ 1 ≤ n ∧ n ≤ 1000)) : spansX s n = [] := if_neg h
theorem group_pos {s : Int} (h : schOk s = true) : 16 ≤ groupN s := by have := (sch_bounds h).1; unfold groupN; omega
theorem group_zero {s : Int} (h : schOk s = false) : groupN s = 0 := by unfold groupN; rw [(sch_zero h).1]
theorem span_last {S n j : Nat} (hS : 0 < S) (h1 : j * S < n) (h2 : n ≤ j * S + S) : (n - 1) / S = j := by
  have e : n - 1 = (n - 1 - j * S) + j * S := by omega
  rw [e, Nat.add_mul_div_right _ _ hS, Nat.div_eq_of_lt (by omega), Nat.zero_add]
end Go.Proofs.YtoaifodmjkhiiaaDoor
/- TvA: Rows of texts that a call has made. -/
namespace Go.Proofs.YtoaifodmjkhiiaaDoor
set_option maxRecDepth 100000
open Go.RowKit

/-- Texts as the cells of a row. -/
def tv (l : List ByteArray) : List Value := l.map Value.string
theorem tv_snoc (l : List ByteArray) (x : ByteArray) : tv l ++ [.string x] = tv (l ++ [x]) := by simp [tv]
theorem tv_len (l : List ByteArray) : (tv l).length = l.length := by simp [tv]
theorem Tryd.info9 : (Tryd.prog.info? 9).map (fun i => (i.zero, i.size, i.bytes)) = some (some (.string ⟨#[]⟩), 1, 16) := by kernel_rfl

/-- A row of texts that a call has made: nothing of it is older than B. -/
def RowAt (w : World) (B : Nat) (a : Option Addr) (xs : List ByteArray) (cap : Nat) : Prop := xs.length ≤ cap ∧ (xs = [] ∨ ∃ g, a = some ⟨g, 0, none⟩ ∧ B ≤ g ∧ WRow w g xs)
theorem own_rowAt {w : World} {B : Nat} {v : Value} {xs : List ByteArray} (h : w.ownsRow B 9 1 v xs.length (tv xs)) : ∃ a cap, v = .slice a xs.length cap ∧ RowAt w B a xs cap := by
  have hc : ∀ g, v.ownBlock = some g → ∀ j u, (tv xs)[j]? = some u → w.cell? ((⟨g, 0, none⟩ : Addr).add j) = some u := fun g hg => h.cells hg
  have hlt := h.lt
  obtain ⟨_, ⟨rfl, h0⟩ | ⟨g, cap, cur, rfl, hB, hcur, hn, _, hsz, _⟩⟩ := h
  · have : xs = [] := List.eq_nil_of_length_eq_zero h0
    subst this
    exact ⟨none, 0, rfl, by simp, .inl rfl⟩
  · refine ⟨_, cap, rfl, hn, .inr ⟨g, rfl, hB, (hlt g rfl).2, fun j hj => ⟨?_, ?_⟩⟩⟩
    · have := hc g rfl j _ (show (tv xs)[j]? = some _ by simp [tv, hj]; rfl)
      have e : (⟨g, 0, none⟩ : Addr).add j = ⟨g, j, none⟩ := by
        cases j <;> simp [Addr.add]
      rw [e] at this
      simpa [List.getD, hj] using this
    · unfold World.frozen?
      rw [hcur]; simp
end Go.Proofs.YtoaifodmjkhiiaaDoor
/- StrV: Rows of texts as values: what is seen of one, what an answer is, what is marked, and the laws' own functions over them. -/
namespace Go.Proofs.YtoaifodmjkhiiaaDoor
set_option maxRecDepth 100000
open Go.RowKit
attribute [local go_sem ↓] Go.wp_at_zero Go.wp_at_succ

theorem tv_get (L : List ByteArray) (j : Nat) (h : j < L.length) : (tv L)[j]? = some (.string (L.getD j ⟨#[]⟩)) := by simp [tv, List.getD, h]
theorem tv_set (L : List ByteArray) (j : Nat) (x : ByteArray) : (tv L).set j (.string x) = tv (L.set j x) := by simp [tv, List.map_set]
theorem wrow_cells {w : World} {g : Nat} {L : List ByteArray} : WRow w g L ↔ WCells w g (tv L) := by
  constructor
  · intro h
    refine ⟨h.1, fun i v hv => ?_⟩
    have hi : i < L.length := by have := (List.getElem?_eq_some_iff.1 hv).1; rw [tv_len] at this; exact this
    rw [tv_get L i hi] at hv
    cases hv
    exact h.2 i hi
  · intro h
    exact ⟨h.1, fun j hj => h.2 j _ (tv_get L j hj)⟩
/-- How many bytes there are. -/
def tsum : List ByteArray → Nat
  | [] => 0
  | x :: L => x.size + tsum L
theorem tsum_mem {L : List ByteArray} {x : ByteArray} (h : x ∈ L) : x.size ≤ tsum L := by
  induction L with
  | nil => simp at h
  | cons t L ih =>
    rcases List.mem_cons.1 h with rfl | h
    · simp only [tsum]; omega
    · have := ih h; simp only [tsum]; omega
theorem tsum_append (L M : List ByteArray) : tsum (L ++ M) = tsum L + tsum M := by
  induction L with
  | nil => simp [tsum]
  | cons t L ih => simp only [List.cons_append, tsum]; omega
theorem tsum_take (L : List ByteArray) (k : Nat) (h : k < L.length) : tsum (L.take (k + 1)) = tsum (L.take k) + (L.getD k ⟨#[]⟩).size := by
  rw [List.take_succ_eq_append_getElem h, tsum_append]
  have e : L.getD k ⟨#[]⟩ = L[k] := by simp [List.getD, h]
  rw [e]; simp [tsum]
theorem tsum_le (L : List ByteArray) (k : Nat) : tsum (L.take k) ≤ tsum L := by
  have := tsum_append (L.take k) (L.drop k)
  rw [List.take_append_drop] at this
  omega
/-- Texts that a machine can hold. -/
def TFit (L : List ByteArray) : Prop := L.length + tsum L ≤ 1048576
/-- A value that is these texts. -/
def SSee (w : World) (v : Value) (L : List ByteArray) (lo hi : Nat) : Prop := ∃ (a : Option Addr) (cap : Nat), v = .slice a L.length cap ∧ RRow w a (tv L) lo hi
/-- An answer of texts: nothing, or a row that may be written. -/
def SAns (w : World) (v : Value) (L : List ByteArray) (lo hi : Nat) : Prop := ∃ (a : Option Addr) (cap : Nat), v = .slice a L.length cap ∧ L.length ≤ cap ∧ (L = [] ∨ ∃ g, a = some ⟨g, 0, none⟩ ∧ lo ≤ g ∧ g < hi ∧ WCells w g (tv L))
theorem SAns.see {w : World} {v : Value} {L : List ByteArray} {lo hi : Nat} (h : SAns w v L lo hi) : SSee w v L lo hi := by
  obtain ⟨a, cap, e, _, h1⟩ := h
  refine ⟨a, cap, e, ?_⟩
  rcases h1 with rfl | ⟨g, rfl, q1, q2, hm⟩
  · intro h; simp [tv] at h
  · exact RRow.of_wcells hm q1 q2
theorem SSee.turned {w w' : World} {v : Value} {L : List ByteArray} {lo hi lo' hi' : Nat} (h : SSee w v L lo hi) (t : Turned w w' lo' hi') (hd : hi ≤ lo' ∨ hi' ≤ lo) : SSee w' v L lo hi := by
  obtain ⟨a, cap, e, h1⟩ := h
  exact ⟨a, cap, e, h1.turned t hd⟩
theorem SSee.below {w w' : World} {v : Value} {L : List ByteArray} {lo hi : Nat} (h : SSee w v L lo hi) (hb : Below w.heap.size w w') : SSee w' v L lo hi := by
  obtain ⟨a, cap, e, h1⟩ := h
  exact ⟨a, cap, e, h1.below hb⟩
theorem SAns.turned {w w' : World} {v : Value} {L : List ByteArray} {lo hi lo' hi' : Nat} (h : SAns w v L lo hi) (t : Turned w w' lo' hi') (hd : hi ≤ lo' ∨ hi' ≤ lo) : SAns w' v L lo hi := by
  obtain ⟨a, cap, e, hc, h1⟩ := h
  refine ⟨a, cap, e, hc, ?_⟩
  rcases h1 with rfl | ⟨g, rfl, q1, q2, hm⟩
  · exact .inl rfl
  · exact .inr ⟨g, rfl, q1, q2, hm.turned t (by omega)⟩
theorem SAns.below {w w' : World} {v : Value} {L : List ByteArray} {lo hi : Nat} (h : SAns w v L lo hi) (hb : Below w.heap.size w w') : SAns w' v L lo hi := by
  obtain ⟨a, cap, e, hc, h1⟩ := h
  refine ⟨a, cap, e, hc, ?_⟩
  rcases h1 with rfl | ⟨g, rfl, q1, q2, hm⟩
  · exact .inl rfl
  · exact .inr ⟨g, rfl, q1, q2, hm.grow hb⟩
theorem SAns.empty (w : World) (a : Option Addr) (cap lo hi : Nat) : SAns w (.slice a 0 cap) [] lo hi := ⟨a, cap, rfl, Nat.zero_le _, .inl rfl⟩
theorem SAns.srow {w : World} {v : Value} {L : List ByteArray} {lo hi : Nat} (h : SAns w v L lo hi) : ∃ a cap, v = .slice a L.length cap ∧ SRow w a L := by
  obtain ⟨a, cap, e, _, h1⟩ := h
  refine ⟨a, cap, e, ?_⟩
  rcases h1 with rfl | ⟨g, rfl, _, _, hm⟩
  · intro h; simp at h
  · exact (wrow_cells.2 hm).srow
/-- What an answer of texts is: new memory alone. -/
def SPost (L : List ByteArray) (w : World) (e : Ending) (w' : World) : Prop := ∃ v, e = .returned v ∧ SAns w' v L w.heap.size w'.heap.size ∧ Below w.heap.size w w'
theorem own_sans {w w' : World} {v : Value} {L : List ByteArray} {n : Nat} (hn : L.length = n) (h : w'.ownsRow w.heap.size 9 1 v n (tv L)) : SAns w' v L w.heap.size w'.heap.size := by
  have h' := h
  rw [← hn] at h'
  obtain ⟨a, cap, rfl, hc, h1⟩ := own_rowAt h'
  refine ⟨a, cap, rfl, hc, ?_⟩
  rcases h1 with rfl | ⟨g, rfl, q1, hm⟩
  · exact .inl rfl
  · exact .inr ⟨g, rfl, q1, hm.1, wrow_cells.1 hm⟩
theorem infoTextG : (Tryd.prog.info? 9).map (fun i => (i.zero, i.size, i.bytes)) = some (some (.string ⟨#[]⟩), 1, 16) := by kernel_rfl
theorem eqStringS_val {w : World} {v u : Value} {L : List ByteArray} {lo hi lo' hi' : Nat} (h : SAns w v L lo hi) (k : SAns w u L lo' hi') (hf : L.length ≤ 100000000) : Calls Tryd.prog 10 #[v, u] w fun e w' => e = .returned (.bool true) ∧ Below w.heap.size w w' := by
  obtain ⟨a, cap, rfl, h1⟩ := h.srow
  obtain ⟨b, cap', rfl, h2⟩ := k.srow
  refine (eqStringS_any a b L L cap cap' w h1 h2 hf hf).mono ?_
  rintro e w' ⟨rfl, q, rfl⟩
  exact ⟨by unfold eqS; simp, ⟨rfl, rfl, rfl, Nat.le_refl _, fun _ _ => rfl⟩⟩
theorem markStringS_val {w : World} {v : Value} {L : List ByteArray} {lo hi : Nat} (k : Nat) (h : SAns w v L lo hi) (h0 : 0 < k) (hk : k + L.length ≤ 100000000) :
    Calls Tryd.prog 14 #[v, .int .i64 k] w fun e w' => e = .returned (.int .i64 (k + L.length : Nat)) ∧ SAns w' v (marks k L.length) lo hi ∧ Turned w w' lo hi := by
  obtain ⟨a, cap, rfl, hc, h1⟩ := h
  rcases h1 with rfl | ⟨g, rfl, q1, q2, hm⟩
  · refine (markStringS_none a k cap w).mono ?_
    rintro e w' ⟨rfl, rfl⟩
    exact ⟨rfl, ⟨a, cap, rfl, Nat.zero_le _, .inl rfl⟩, Turned.refl _ _ _⟩
  · refine (markStringS_any g L k cap w (wrow_cells.2 hm) h0 hk hc).mono ?_
    rintro e w' ⟨rfl, hw, hg⟩
    exact ⟨rfl, ⟨_, cap, by rw [marks_len], by rw [marks_len]; exact hc, .inr ⟨g, rfl, q1, q2, wrow_cells.1 hw⟩⟩, Turned.of_grown hg q1 q2⟩
theorem heldStringS_val {w : World} {v : Value} {k n lo hi : Nat} (h : SAns w v (marks k n) lo hi) (h0 : 0 < k) (hk : k + n ≤ 100000000) :
    Calls Tryd.prog 16 #[v, .int .i64 k] w fun e w' => e = .returned (.int .i64 (k + n : Nat)) ∧ Below w.heap.size w w' := by
  obtain ⟨a, cap, rfl, h1⟩ := h.srow
  rw [marks_len]
  exact heldStringS_any a k n cap w h1 h0 hk
end Go.Proofs.YtoaifodmjkhiiaaDoor
/- SpnC: The walks of the models' CutUnits and JoinUnits. -/
namespace Go.Proofs.YtoaifodmjkhiiaaDoor
set_option maxRecDepth 100000
open Go.RowKit
attribute [local go_sem ↓] Go.wp_at_zero Go.wp_at_succ

/-- The bytes of a text that lie in a unit, in their order. -/
def unitB (k : Nat) (t : ByteArray) (n u : Nat) : ByteArray := ⟨(((List.range n).filter fun j => decide (unitAt k j = u)).map fun j => t.data.toList.getD j 0).toArray⟩
def cutL (k : Nat) (t : ByteArray) (n : Nat) : List ByteArray := (List.range k).map (unitB k t n)
def cutX (s : Int) (t : ByteArray) : List ByteArray × Bool := if schOk s = true ∧ t.size ≤ groupN s then (cutL (schK s) t t.size, true) else ([], false)
theorem cutL_len (k : Nat) (t : ByteArray) (n : Nat) : (cutL k t n).length = k := by simp [cutL]
theorem cutL_at {k : Nat} {t : ByteArray} {n u : Nat} (h : u < k) : (cutL k t n).getD u ⟨#[]⟩ = unitB k t n u := by
  unfold cutL
  rw [List.getD_eq_getElem?_getD, List.getElem?_map, List.getElem?_range h]; rfl
theorem unit_lt {k : Nat} (h : 0 < k) (i : Nat) : unitAt k i < k := Nat.mod_lt _ h
def byteB (c : UInt8) : ByteArray := ⟨#[c]⟩
theorem unitB_same {k : Nat} {t : ByteArray} {i u : Nat} (h : unitAt k i = u) : unitB k t (i + 1) u = ⟨(unitB k t i u).data ++ (byteB (t.data.toList.getD i 0)).data⟩ := by
  unfold unitB byteB
  rw [List.range_succ, List.filter_append]
  simp [h]
theorem unitB_other {k : Nat} {t : ByteArray} {i u : Nat} (h : unitAt k i ≠ u) : unitB k t (i + 1) u = unitB k t i u := by
  unfold unitB
  rw [List.range_succ, List.filter_append]
  simp [h]
theorem cutL_step {k : Nat} (hk : 0 < k) (t : ByteArray) (i : Nat) : (cutL k t i).set (unitAt k i) ⟨((cutL k t i).getD (unitAt k i) ⟨#[]⟩).data ++ (byteB (t.data.toList.getD i 0)).data⟩ = cutL k t (i + 1) := by
  rw [cutL_at (unit_lt hk i), ← unitB_same rfl]
  apply List.ext_getElem (by simp [cutL])
  intro u h1 h2
  rw [List.getElem_set]
  have hu : u < k := by simpa [cutL] using h2
  simp only [cutL, List.getElem_map, List.getElem_range]
  by_cases e : unitAt k i = u
  · rw [if_pos e, e]
  · rw [if_neg e, unitB_other e]
theorem cutL_0 (k : Nat) (t : ByteArray) : cutL k t 0 = List.replicate k ⟨#[]⟩ := by
  apply List.ext_getElem (by simp [cutL])
  intro u h1 h2
  simp [cutL, unitB]
theorem byte_is {t : ByteArray} {i : Nat} (h : i < t.size) : t.extract i (i + 1) = byteB (t.data.toList.getD i 0) := by
  apply ByteArray.ext
  have h' : i < t.data.size := h
  simp only [byteB, ByteArray.data_extract]
  apply Array.ext
  · simp; omega
  · intro j h1 h2
    have hj : j = 0 := by simp at h2; omega
    subst hj
    simp
    rw [Array.getElem?_eq_getElem h', Option.getD_some]
theorem byte_size {t : ByteArray} {i : Nat} (h : i < t.size) : (t.extract i (i + 1)).size = 1 := by rw [byte_is h]; rfl
theorem byte_cat {x : ByteArray} {t : ByteArray} {i : Nat} (h : i < t.size) : x ++ t.extract i (i + 1) = ⟨x.data ++ (byteB (t.data.toList.getD i 0)).data⟩ := by
  rw [byte_is h]
  apply ByteArray.ext
  simp
theorem unitB_size (k : Nat) (t : ByteArray) (n u : Nat) : (unitB k t n u).size ≤ n := by
  have h := List.length_filter_le (fun j => decide (unitAt k j = u)) (List.range n)
  simp only [List.length_range] at h
  show (List.map _ _).toArray.size ≤ n
  rw [List.size_toArray, List.length_map]
  exact h
theorem WCells.drawn {w : World} {g : Nat} {L : List Value} (h : WCells w g L) : WCells w.drew g L := h.below (Below.drew (Below.refl w.heap.size w)) h.1
/-- What such an answer is. -/
def TPost8 (R : List ByteArray × Bool) (w : World) (e : Ending) (w' : World) : Prop := ∃ v, e = .returned (.tuple #[v, .bool R.2]) ∧ SAns w' v R.1 w.heap.size w'.heap.size ∧ Below w.heap.size w w'
set_option maxRecDepth 100000 in
set_option maxHeartbeats 2000000 in
theorem specCutUnits (s : Int) (t : ByteArray) (w : World) (hts : t.size ≤ 9223372036854775807) : Calls Tryd.prog 59 #[.int .i64 s, .string t] w fun e w' => TPost8 (cutX s t) w e w' := by
  obtain ⟨i0, hi0, hz0, hz1, hz2⟩ := info_parts infoTextG
  have HS := Shut.mk (fun W => specSchema s W)
  unfold SchPost at HS
  have HG := Shut.mk (fun W => specGroupSize s W)
  have hg32 := groupN_bounds s
  cases h : schOk s with
  | false =>
    have e0 : cutX s t = ([], false) := by unfold cutX; rw [if_neg (fun q => by rw [h] at q; cases q.1)]
    unfold TPost8
    rw [e0]
    rw [h] at HS
    clear h e0 hg32
    generalize schK s = k at *
    generalize schM s = m at *
    go_enter Tryd.func59, Tryd.ntmps59
    go_wp2_with fail
    refine (HS.out _).mono ?_
    rintro e w1 ⟨rfl, rfl⟩
    go_wp2_with fail
    go_ret2
    exact ⟨_, rfl, SAns.empty _ _ _ _ _, (Below.refl _ _).alloc (Nat.le_refl _) _⟩
  | true =>
    rw [h] at HS
    obtain ⟨b1, b2, _, _⟩ := sch_bounds h
    by_cases hz : t.size ≤ groupN s
    · have e0 : cutX s t = (cutL (schK s) t t.size, true) := by unfold cutX; rw [if_pos ⟨h, hz⟩]
      have HPL := Shut.mk (fun (i : Nat) (hi : i < t.size) W => specPlaceOf s (i : Int) W)
      have hpx : ∀ i : Nat, i < t.size → placeX s (i : Int) = (i / (schK s * 8), unitAt (schK s) i, placeIn (schK s) i) := fun i hi => by
        unfold placeX; rw [if_pos ⟨h, by omega, by omega⟩]; rfl
      have HPX := Shut.mk hpx
      unfold TPost8
      rw [e0]
      have hz' : ¬ (groupN s : Int) < (t.size : Int) := by omega
      clear h e0 hpx
      generalize schM s = m at *
      obtain ⟨k, hk⟩ : ∃ k, k = schK s := ⟨_, rfl⟩
      rw [← hk] at HS HPX b1 b2 ⊢
      generalize groupN s = S at *
      clear hk
      go_enter Tryd.func59, Tryd.ntmps59
      go_wp2_with fail
      refine (HS.out _).mono ?_
      rintro e w1 ⟨rfl, rfl⟩
      go_wp2_with fail
      refine (HG.out _).mono ?_
      rintro e w2 ⟨rfl, rfl⟩
      go_wp2_with (at_make; refine wpList_make_full _ rfl _ _ 24 rfl w2.heap.size 9 i0 _ 1 Tryd.underlying24 hi0 hz0 hz1 .i64 .i64 _ _ k rfl rfl (by omega) (by omega) ?b2 ?b3 ?b4 ?_)
      case b2 => rw [hz2]; omega
      case b3 => unfold maxLen; omega
      case b4 => omega
      intro wm hownm hgrm
      have hbm : Below w2.heap.size w2 wm := (Below.refl _ _).grown hgrm (Nat.le_refl _) (fun j hj => by simp at hj)
      have hrow : WCells wm w2.heap.size (tv (cutL k t 0)) := by
        have h := own_wcells hownm
        have e : (madeCells #[Value.string ⟨#[]⟩] k).toList = tv (cutL k t 0) := by rw [toList_madeCells_one, cutL_0]; simp [tv]
        rw [e] at h
        exact h
      have HROW := Shut.mk hrow
      have HBM := Shut.mk hbm
      clear hownm hgrm hrow hbm
      go_wp2_with fail
      go_loopw [10] (fun ii wr => ∃ i : Nat, ii = .int .i64 (i : Nat) ∧ i ≤ t.size ∧ Shut (WCells wr w2.heap.size (tv (cutL k t i))) ∧ Shut (Below w2.heap.size w2 wr)) (fun ii _ => t.size - (intOf ii).toNat)
      case atStart => exact ⟨0, rfl, Nat.zero_le _, HROW, HBM⟩
      case round =>
        clear HROW HBM
        obtain ⟨i, rfl, hin, hrow, hbo⟩ := hrel
        obtain ⟨wo, rfl⟩ : ∃ wo, wo = wr := ⟨_, rfl⟩
        by_cases hlt : i < t.size
        · have hlt' : (i : Int) < (t.size : Int) := by omega
          have i0' : (0 : Int) ≤ (i : Int) := by omega
          have HP1 := Shut.mk (HPL.out i hlt)
          unfold PlacePost at HP1
          rw [HPX.out i hlt] at HP1
          have hul := unit_lt (show 0 < k by omega) i
          have hst : (cutL k t i).set (unitAt k i) ((cutL k t i).getD (unitAt k i) ⟨#[]⟩ ++ t.extract i (i + 1)) = cutL k t (i + 1) := by rw [byte_cat hlt]; exact cutL_step (by omega) t i
          have HCL := Shut.mk (fun (w5 : World) (hw5 : WCells w5 w2.heap.size (tv (cutL k t i))) => hw5.2 (unitAt k i) _ (tv_get _ (unitAt k i) (by rw [cutL_len]; exact hul)))
          have HST := Shut.mk (fun (w5 : World) (hw5 : WCells w5 w2.heap.size (tv (cutL k t i))) => by
            have q := hw5.set (unitAt k i) (.string ((cutL k t i).getD (unitAt k i) ⟨#[]⟩ ++ t.extract i (i + 1))) (by rw [tv_len, cutL_len]; exact hul)
            rw [tv_set, hst] at q
            exact q)
          have hxs : ((cutL k t i).getD (unitAt k i) ⟨#[]⟩).size ≤ 32 := by rw [cutL_at hul]; exact Nat.le_trans (unitB_size k t i _) (by omega)
          have hys := byte_size hlt
          clear hst
          generalize (cutL k t i).getD (unitAt k i) ⟨#[]⟩ = x at *
          generalize unitAt k i = u at *
          generalize placeIn k i = pl at *
          generalize i / (k * 8) = gq at *
          go_wp2_with fail
          refine (HP1.out _).mono ?_
          rintro e w5 ⟨rfl, hb5⟩
          have hrow5 := hrow.out.below hb5 hrow.out.1
          obtain ⟨c0, z0⟩ := HCL.out w5 hrow5
          have HS5 := Shut.mk (HST.out w5 hrow5)
          have HB5 := Shut.mk (hbo.out.trans (hb5.mono hbo.out.size))
          have u0 : (0 : Int) ≤ (u : Int) := by omega
          have u1 : (u : Int) < (k : Int) := by omega
          clear hb5 hrow5 hrow hbo HCL HST HP1
          go_wp2_with fail
          go_region
          all_goals go_wp2_with fail
          all_goals exact ⟨⟨i + 1, by go_num, by omega, ⟨HS5.out.drawn⟩, ⟨Below.drew (HB5.out.setCell (p := ⟨w2.heap.size, u, none⟩) (Nat.le_refl _) _)⟩⟩, by simp [intOf]; omega⟩
        · have e : i = t.size := by omega
          subst e
          have hlt' : ¬ (t.size : Int) < (t.size : Int) := by omega
          have HF : Shut (SAns wo (.slice (some ⟨w2.heap.size, 0, none⟩) k k) (cutL k t t.size) w2.heap.size wo.heap.size) := ⟨⟨_, k, by rw [cutL_len], by rw [cutL_len]; exact Nat.le_refl _, .inr ⟨_, rfl, Nat.le_refl _, hrow.out.1, hrow.out⟩⟩⟩
          clear hrow
          go_wp2_with fail
          go_ret2
          exact ⟨_, rfl, HF.out, hbo.out⟩
    · have e0 : cutX s t = ([], false) := by unfold cutX; rw [if_neg (fun q => hz q.2)]
      unfold TPost8
      rw [e0]
      have hz' : (groupN s : Int) < (t.size : Int) := by omega
      clear h e0 hz
      generalize schK s = k at *
      generalize schM s = m at *
      generalize groupN s = S at *
      go_enter Tryd.func59, Tryd.ntmps59
      go_wp2_with fail
      refine (HS.out _).mono ?_
      rintro e w1 ⟨rfl, rfl⟩
      go_wp2_with fail
      refine (HG.out _).mono ?_
      rintro e w2 ⟨rfl, rfl⟩
      go_wp2_with fail
      go_ret2
      exact ⟨_, rfl, SAns.empty _ _ _ _ _, (Below.refl _ _).alloc (Nat.le_refl _) _⟩
end Go.Proofs.YtoaifodmjkhiiaaDoor
/- SpnD: The walk of the model's JoinUnits. -/
namespace Go.Proofs.YtoaifodmjkhiiaaDoor
set_option maxRecDepth 100000
open Go.RowKit
attribute [local go_sem ↓] Go.wp_at_zero Go.wp_at_succ

def joinAt (k : Nat) (U : List ByteArray) (i : Nat) : UInt8 := (U.getD (unitAt k i) ⟨#[]⟩).data.toList.getD (placeIn k i) 0
def joinL (k : Nat) (U : List ByteArray) (n : Nat) : List UInt8 := (List.range n).map (joinAt k U)
def joinX (s : Int) (U : List ByteArray) (n : Int) : ByteArray × Bool := if schOk s = true ∧ U.length = schK s ∧ 0 ≤ n ∧ n ≤ (groupN s : Int) then (⟨(joinL (schK s) U n.toNat).toArray⟩, true) else (⟨#[]⟩, false)
theorem joinX_no {s : Int} {U : List ByteArray} {n : Int} (h : ¬ (schOk s = true ∧ U.length = schK s ∧ 0 ≤ n ∧ n ≤ (groupN s : Int))) : joinX s U n = (⟨#[]⟩, false) := if_neg h
def JoinPost (R : ByteArray × Bool) (w : World) (e : Ending) (w' : World) : Prop := e = .returned (.tuple #[.string R.1, .bool R.2]) ∧ Below w.heap.size w w'
theorem joinL_len (k : Nat) (U : List ByteArray) (n : Nat) : (joinL k U n).length = n := by simp [joinL]
theorem joinL_succ (k : Nat) (U : List ByteArray) (n : Nat) : bv (joinL k U (n + 1)) = bv (joinL k U n) ++ [.int .u8 ((joinAt k U n).toNat : Int)] := by
  unfold joinL; rw [List.range_succ, List.map_append]; simp [bv]
theorem get_byte (s : ByteArray) (k : Nat) (h : k < s.size) : Go.PlainAid.bt s k = ((s.data.toList.getD k 0).toNat : Int) := by
  unfold Go.PlainAid.bt
  rw [dif_pos h]
  have : s.data.toList.getD k 0 = s[k] := by
    have hk : k < s.data.size := h
    rw [List.getD_eq_getElem?_getD, Array.getElem?_toList, Array.getElem?_eq_getElem hk]
    rfl
  rw [this]
theorem get_none (s : ByteArray) (k : Nat) (h : ¬ k < s.size) : s.data.toList.getD k 0 = 0 := by
  have hk : s.data.toList.length ≤ k := by simpa using h
  rw [List.getD_eq_getElem?_getD, List.getElem?_eq_none hk]; rfl
theorem units_cells {w : World} {a : Option Addr} {L : List ByteArray} {lo hi : Nat} (h : RRow w a (tv L) lo hi) (hp : 0 < L.length) : ∃ b off, a = some ⟨b, off, none⟩ ∧ b < w.heap.size ∧ ∀ j, j < L.length → w.cell? ⟨b, off + j, none⟩ = some (.string (L.getD j ⟨#[]⟩)) := by
  obtain ⟨b, off, e, _, _, hb, hc⟩ := h (by rw [tv_len]; exact hp)
  exact ⟨b, off, e, hb, fun j hj => hc j _ (tv_get L j hj)⟩
end Go.Proofs.YtoaifodmjkhiiaaDoor
/- SpnF: A text that is cut to units and joined of them again (plain). Nothing of the program is read here. -/
namespace Go.Proofs.YtoaifodmjkhiiaaDoor
set_option maxRecDepth 100000
open Go.RowKit

def inUnit (k n u : Nat) : List Nat := (List.range n).filter fun j => decide (unitAt k j = u)
def chkPlace (k : Nat) : Bool := (List.range (k * 8 + 1)).all fun n => (List.range n).all fun i => (inUnit k n (unitAt k i))[placeIn k i]? == some i
def chkSize (k : Nat) : Bool := (List.range (k * 8 + 1)).all fun n => (List.range k).all fun u => decide ((inUnit k n u).length ≤ 8)
def chkSum (k : Nat) : Bool := (List.range (k * 8 + 1)).all fun n => decide (((List.range k).map fun u => (inUnit k n u).length).sum = n)
theorem place_2 : chkPlace 2 = true := by decide +kernel
theorem place_3 : chkPlace 3 = true := by decide +kernel
theorem place_4 : chkPlace 4 = true := by decide +kernel
theorem size_2 : chkSize 2 = true := by decide +kernel
theorem size_3 : chkSize 3 = true := by decide +kernel
theorem size_4 : chkSize 4 = true := by decide +kernel
theorem sum_2 : chkSum 2 = true := by decide +kernel
theorem sum_3 : chkSum 3 = true := by decide +kernel
theorem sum_4 : chkSum 4 = true := by decide +kernel
theorem sch_k {s : Int} (h : schOk s = true) : schK s = 2 ∨ schK s = 3 ∨ schK s = 4 := by
  have := sch_bounds h; omega
theorem place_all {k n i : Nat} (hk : k = 2 ∨ k = 3 ∨ k = 4) (hn : n ≤ k * 8) (hi : i < n) : (inUnit k n (unitAt k i))[placeIn k i]? = some i := by
  have h : chkPlace k = true := by
    rcases hk with rfl | rfl | rfl
    · exact place_2
    · exact place_3
    · exact place_4
  unfold chkPlace at h
  simp only [List.all_eq_true, List.mem_range, beq_iff_eq] at h
  exact h n (by omega) i hi
theorem size_all {k n u : Nat} (hk : k = 2 ∨ k = 3 ∨ k = 4) (hn : n ≤ k * 8) (hu : u < k) : (inUnit k n u).length ≤ 8 := by
  have h : chkSize k = true := by
    rcases hk with rfl | rfl | rfl
    · exact size_2
    · exact size_3
    · exact size_4
  unfold chkSize at h
  simp only [List.all_eq_true, List.mem_range, decide_eq_true_eq] at h
  exact h n (by omega) u hu
theorem sum_all {k n : Nat} (hk : k = 2 ∨ k = 3 ∨ k = 4) (hn : n ≤ k * 8) : ((List.range k).map fun u => (inUnit k n u).length).sum = n := by
  have h : chkSum k = true := by
    rcases hk with rfl | rfl | rfl
    · exact sum_2
    · exact sum_3
    · exact sum_4
  unfold chkSum at h
  simp only [List.all_eq_true, List.mem_range, decide_eq_true_eq] at h
  exact h n (by omega)
theorem unitB_list (k : Nat) (t : ByteArray) (n u : Nat) : (unitB k t n u).data.toList = (inUnit k n u).map fun j => t.data.toList.getD j 0 := rfl
theorem unitB_len (k : Nat) (t : ByteArray) (n u : Nat) : (unitB k t n u).size = (inUnit k n u).length := by
  show (List.map _ _).toArray.size = _
  rw [List.size_toArray, List.length_map]; rfl
theorem joinAt_cut {k n i : Nat} {t : ByteArray} (hk : k = 2 ∨ k = 3 ∨ k = 4) (hn : n ≤ k * 8) (hi : i < n) : joinAt k (cutL k t n) i = t.data.toList.getD i 0 := by
  unfold joinAt
  rw [cutL_at (unit_lt (by omega) i), unitB_list, List.getD_eq_getElem?_getD, List.getElem?_map, place_all hk hn hi]
  rfl
theorem joinL_cut {k n m : Nat} {t : ByteArray} (hk : k = 2 ∨ k = 3 ∨ k = 4) (hn : n ≤ k * 8) (hm : m ≤ n) (ht : n = t.size) : (⟨(joinL k (cutL k t n) m).toArray⟩ : ByteArray) = t.extract 0 m := by
  apply ByteArray.ext
  simp only [ByteArray.data_extract]
  have hts : t.data.size = n := ht.symm
  apply Array.ext
  · simp [joinL]; omega
  · intro j h1 h2
    have hj : j < m := by simpa [joinL] using h1
    simp only [joinL, List.getElem_toArray, List.getElem_map, List.getElem_range]
    rw [joinAt_cut hk hn (by omega), Array.getElem_extract, List.getD_eq_getElem?_getD, Array.getElem?_toList, Array.getElem?_eq_getElem (by omega : j < t.data.size), Option.getD_some]
    congr 1
    omega
theorem cut_ok {s : Int} {t : ByteArray} (h : schOk s = true) (ht : t.size ≤ groupN s) : cutX s t = (cutL (schK s) t t.size, true) := if_pos ⟨h, ht⟩
/-- A text that was cut, or any beginning of it, is joined of its units again. -/
theorem join_cut {s : Int} {t : ByteArray} (h : schOk s = true) (ht : t.size ≤ groupN s) {m : Nat} (hm : m ≤ t.size) : joinX s (cutX s t).1 (m : Int) = (t.extract 0 m, true) := by
  rw [cut_ok h ht]
  unfold joinX
  rw [if_pos ⟨h, cutL_len _ _ _, by omega, by omega⟩]
  rw [Int.toNat_natCast, joinL_cut (sch_k h) ht hm rfl]
theorem cut_sizes {s : Int} {t : ByteArray} (h : schOk s = true) (ht : t.size ≤ groupN s) : ∀ x ∈ (cutX s t).1, x.size ≤ 8 := by
  rw [cut_ok h ht]
  intro x hx
  obtain ⟨u, hu, rfl⟩ := List.mem_map.1 hx
  rw [unitB_len]
  exact size_all (sch_k h) ht (List.mem_range.1 hu)
theorem cut_sum {s : Int} {t : ByteArray} (h : schOk s = true) (ht : t.size ≤ groupN s) : ((cutX s t).1.map ByteArray.size).sum = t.size := by
  rw [cut_ok h ht]
  show ((List.map _ _).map _).sum = _
  rw [List.map_map]
  have : (ByteArray.size ∘ unitB (schK s) t t.size) = fun u => (inUnit (schK s) t.size u).length := by
    funext u
    exact unitB_len _ _ _ _
  rw [this]
  exact sum_all (sch_k h) ht
end Go.Proofs.YtoaifodmjkhiiaaDoor
/- NestB: Rows of rows of numbers: the laws' own copies, sizes, comparisons and marks. -/
namespace Go.Proofs.YtoaifodmjkhiiaaDoor
set_option maxRecDepth 100000
open Go.RowKit
attribute [local go_sem ↓] Go.wp_at_zero Go.wp_at_succ

theorem infoRow : (Tryd.prog.info? 97).map (fun i => (i.zero, i.size, i.bytes)) = some (some (.slice none 0 0), 1, 24) := by kernel_rfl
/-- Where the copy of a row of rows stands. -/
structure TI (w wr : World) (ss : List SR) (ts : List SR) : Prop where
  rweq : rws ts = rws (ss.take ts.length)
  out : WCells wr w.heap.size (svs ts ++ List.replicate (ss.length - ts.length) (.slice none 0 0))
  rows : ∀ s ∈ ts, ∃ b, s.loc = some ⟨b, 0, none⟩ ∧ w.heap.size ≤ b ∧ b < wr.heap.size ∧ b ≠ w.heap.size ∧ WCells wr b (ics s.row) ∧ s.row.length ≤ s.cap
  apart : (ts.map SR.loc).Nodup
  bel : Below w.heap.size w wr
theorem set_mid (A B : List Value) (x y : Value) (k : Nat) (h : A.length = k) : (A ++ x :: B).set k y = A ++ y :: B := by
  subst h
  rw [List.set_append_right _ _ (Nat.le_refl _)]
  simp
theorem TI.next {w wr w1 : World} {ss ts : List SR} {g1 : Nat} {row : List Int} {n : Nat} (h : TI w wr ss ts) (hk : ts.length < ss.length) (hrow : (ss[ts.length]).row = row) (hn : n = row.length) (hw : w.heap.size < wr.heap.size)
    (hg1 : wr.heap.size ≤ g1) (hc : WCells w1 g1 (ics row)) (hb : Below wr.heap.size wr w1) : TI w (w1.setCell ⟨w.heap.size, ts.length, none⟩ (.slice (some ⟨g1, 0, none⟩) n n)) ss (ts ++ [SR.mk (some ⟨g1, 0, none⟩) row row.length]) := by
  subst hn
  have hne : g1 ≠ w.heap.size := by omega
  have hsz : (w1.setCell ⟨w.heap.size, ts.length, none⟩ (.slice (some ⟨g1, 0, none⟩) row.length row.length)).heap.size = w1.heap.size := by simp [World.setCell]
  have hgs : w1.grownBy (w1.setCell ⟨w.heap.size, ts.length, none⟩ (.slice (some ⟨g1, 0, none⟩) row.length row.length)) (some w.heap.size) := gb_set' _ _ _ _
  refine ⟨?_, ?_, ?_, ?_, ?_⟩
  · rw [rws_snoc, h.rweq, List.length_append, List.length_singleton, List.take_succ_eq_append_getElem hk, rws_snoc, hrow]
  · have o := (h.out.below hb h.out.1).set ts.length (.slice (some ⟨g1, 0, none⟩) row.length row.length) (by rw [List.length_append, svs_len, List.length_replicate]; omega)
    obtain ⟨m, hm⟩ : ∃ m, ss.length - ts.length = m + 1 := ⟨ss.length - ts.length - 1, by omega⟩
    rw [hm, List.replicate_succ, set_mid _ _ _ _ _ (svs_len ts)] at o
    have e : svs (ts ++ [SR.mk (some ⟨g1, 0, none⟩) row row.length]) ++ List.replicate (ss.length - (ts ++ [SR.mk (some ⟨g1, 0, none⟩) row row.length]).length) (.slice none 0 0) = svs ts ++ .slice (some ⟨g1, 0, none⟩) row.length row.length :: List.replicate m (.slice none 0 0) := by
      rw [List.length_append, List.length_singleton, show ss.length - (ts.length + 1) = m by omega]
      simp [svs, srv]
    rw [e]
    exact o
  · intro s hs
    rcases List.mem_append.1 hs with h1 | h1
    · obtain ⟨b, e, q1, q2, q3, q4, q5⟩ := h.rows s h1
      exact ⟨b, e, q1, by rw [hsz]; exact Nat.lt_of_lt_of_le q2 hb.size, q3, (q4.below hb q4.1).apart hgs q3, q5⟩
    · simp at h1
      subst h1
      exact ⟨g1, rfl, by omega, by rw [hsz]; exact hc.1, hne, hc.apart hgs hne, Nat.le_refl _⟩
  · rw [List.map_append, List.nodup_append]
    refine ⟨h.apart, by simp, fun l hl l' hl' => ?_⟩
    obtain ⟨s, hs, rfl⟩ := List.mem_map.1 hl
    simp only [List.map_cons, List.map_nil, List.mem_singleton] at hl'
    subst hl'
    obtain ⟨b, e, _, q2, _⟩ := h.rows s hs
    rw [e]
    intro e2
    have e4 : b = g1 := congrArg Addr.block (Option.some.inj e2)
    omega
  · exact (h.bel.trans (hb.mono h.bel.size)).setCell (p := ⟨w.heap.size, ts.length, none⟩) (Nat.le_refl _) _
theorem TI.fin {w wr : World} {ss ts : List SR} (h : TI w wr ss ts) (hl : ts.length = ss.length) : rws ts = rws ss ∧ MW wr w.heap.size ts w.heap.size wr.heap.size := by
  refine ⟨by rw [h.rweq, hl, List.take_of_length_le (Nat.le_refl _)], ?_, Nat.le_refl _, h.out.1, h.rows, h.apart⟩
  have := h.out
  rwa [hl, Nat.sub_self, List.replicate_zero, List.append_nil] at this
/-- What a copy of a row of rows is. -/
def ToRows (ss : List SR) (w : World) (e : Ending) (w' : World) : Prop :=
  ∃ g ts, e = .returned (.slice (some ⟨g, 0, none⟩) ss.length ss.length) ∧ List.length (α := SR) ts = ss.length ∧ rws ts = rws ss ∧ MW w' g ts w.heap.size w'.heap.size ∧ Below w.heap.size w w'
/-- The size of rows of numbers, as the laws count it. -/
def msum : List SR → Nat
  | [] => 0
  | s :: ss => s.row.length + msum ss
theorem msum_take (ss : List SR) (k : Nat) (h : k < ss.length) : msum (ss.take (k + 1)) = msum (ss.take k) + ss[k].row.length := by
  induction ss generalizing k with
  | nil => simp at h
  | cons s ss ih =>
    cases k with
    | zero => simp [msum]
    | succ k =>
      have := ih k (by simpa using h)
      simp only [List.take_succ_cons, msum, this, List.getElem_cons_succ]
      omega
theorem msum_le (ss : List SR) (k : Nat) : msum (ss.take k) ≤ msum ss := by
  induction ss generalizing k with
  | nil => simp [msum]
  | cons s ss ih =>
    cases k with
    | zero => simp [msum]
    | succ k => have := ih k; simp only [List.take_succ_cons, msum]; omega
theorem msum_mem {ss : List SR} {s : SR} (h : s ∈ ss) : s.row.length ≤ msum ss := by
  induction ss with
  | nil => simp at h
  | cons t ss ih =>
    rcases List.mem_cons.1 h with rfl | h
    · simp only [msum]; omega
    · have := ih h; simp only [msum]; omega
/-- What is left of the room: or a number below 0. -/
def SzRows (left : Int) (n : Nat) (w : World) (e : Ending) (w' : World) : Prop := ∃ r : Int, e = .returned (.int .i64 r) ∧ w' = w ∧ ((n : Int) ≤ left → r = left - n) ∧ (left < n → r < 0)
end Go.Proofs.YtoaifodmjkhiiaaDoor
/- NestC: Rows of rows of numbers: the laws' own comparisons, marks that are laid into one, and found again. -/
namespace Go.Proofs.YtoaifodmjkhiiaaDoor
set_option maxRecDepth 100000
open Go.RowKit
attribute [local go_sem ↓] Go.wp_at_zero Go.wp_at_succ

end Go.Proofs.YtoaifodmjkhiiaaDoor
