/- The model's PutUnit (written by gen/mkput.py). -/
import Derived.Test.YtbanfccnmbmcfaaDoorSpJ
namespace Go.Proofs.YtbanfccnmbmcfaaDoor
set_option maxRecDepth 100000
open Go.RowKit BigFrame
attribute [local go_sem ↓] Go.wp_at_zero Go.wp_at_succ

theorem uns_snoc (us : List UnM) (u : UnM) : unS (us ++ [u]) = unS us ++ unC u := by simp [unS]
theorem filter_tk {α : Type} (f : α → Bool) (L : List α) (k : Nat) (h : k < L.length) : (L.take (k + 1)).filter f = (L.take k).filter f ++ if f L[k] = true then [L[k]] else [] := by
  rw [List.take_succ_eq_append_getElem h, List.filter_append]
  congr 1
  split <;> simp [*]
/-- A host and a flag: a host whose row is its own. -/
def HbPost (r : HM × Bool) (w : World) (e : Ending) (w' : World) : Prop := ∃ a cap, e = .returned (.tuple #[hov r.1 a cap, .bool r.2]) ∧ FRw w' a (unS r.1.us) w.heap.size w'.heap.size ∧ r.1.us.length ≤ cap ∧ Below w.heap.size w w'
theorem put_fits {us : List UnM} {u : UnM} (h : UnFits us) (hu : UnFit u) (hl : us.length ≤ 1048576) : UnFits (putL us u) := by
  unfold putL
  have l1 := List.length_filter_le (unLt · u) us
  have l2 := List.length_filter_le (unLt u ·) us
  refine ⟨by simp only [List.length_append, List.length_singleton]; omega, fun x hx => ?_⟩
  simp only [List.mem_append, List.mem_filter, List.mem_singleton] at hx
  rcases hx with (hx | rfl) | hx
  · exact h.2 x hx.1
  · exact hu
  · exact h.2 x hx.1
theorem frw_wide {W : World} {va : Option Addr} {X : List Value} {lo hi lo' hi' : Nat} (h : FRw W va X lo hi) (h1 : lo' ≤ lo) (h2 : hi ≤ hi') : FRw W va X lo' hi' := by
  rcases h with e | ⟨g, e, q1, q2, q3⟩
  · exact .inl e
  · exact .inr ⟨g, e, by omega, by omega, q3⟩
set_option maxRecDepth 100000 in
set_option maxHeartbeats 8000000 in
theorem specPutUnit (H : HM) (a : Option Addr) (cap : Nat) (u : UnM) (w : World) (hr : UnRow w a H.us) (hl : H.us.length ≤ 1048576) (hf : UnFits H.us) (hu : UnFit u) (ht : u.text.size ≤ 1048576) :
    Calls Tryd.prog 22 #[hov H a cap, unv u] w fun e w' => HbPost (putX H u) w e w' := by
  obtain ⟨i0, hin, hz0, hz1, hz2⟩ := info_parts infoUnit
  have HR := Shut.mk hr
  have HCP := Shut.mk (fun (W : World) (hb : Below w.heap.size w W) => specCopy14 H a cap W (hr.stays hb) (by omega))
  have HO1 := Shut.mk (fun (W : World) (hb : Below w.heap.size w W) => specHostOk H a cap W (hr.stays hb) (by omega) hf)
  have HPF := Shut.mk (put_fits (u := summed u) hf ⟨hu.1, hu.2.1, hu.2.2.1, by have := sumN_low u.text; show -9223372036854775808 ≤ sumN u.text ∧ sumN u.text ≤ 9223372036854775807; omega⟩ (by omega))
  have HSU := Shut.mk (fun W => specSumText u.text W ht)
  unfold HoPost at HCP
  obtain ⟨id, up, us⟩ := H
  obtain ⟨ug, ui, ut, us0⟩ := u
  obtain ⟨RR, hRR⟩ : ∃ q, q = putX ⟨id, up, us⟩ ⟨ug, ui, ut, us0⟩ := ⟨_, rfl⟩
  rw [← hRR]
  have HQ := Shut.mk hRR
  unfold putX summed at HQ
  dsimp only [summed] at HPF HQ
  show Calls Tryd.prog 22 #[.agg #[.int .i64 id, .bool up, .slice a us.length cap], .agg #[.int .i64 ug, .int .i64 ui, .string ut, .int .i64 us0]] w fun e w' => HbPost RR w e w'
  dsimp only [hov] at *
  generalize sumN ut = sn at *
  obtain ⟨P, hP⟩ : ∃ q, q = putL us ⟨ug, ui, ut, sn⟩ := ⟨_, rfl⟩
  rw [← hP] at HQ HPF
  have HO2 := Shut.mk (fun (W : World) (b : Option Addr) (c : Nat) (hp : P.length ≤ 9000000) (h : UnRow W b P) => specHostOk ⟨id, up, P⟩ b c W h hp HPF.out)
  obtain ⟨ok1, hk1⟩ : ∃ q, q = hostOk ⟨id, up, us⟩ := ⟨_, rfl⟩
  obtain ⟨ok2, hk2⟩ : ∃ q, q = hostOk ⟨id, up, P⟩ := ⟨_, rfl⟩
  rw [← hk1] at HQ HO1
  rw [← hk2] at HQ HO2
  have HP := Shut.mk hP
  obtain ⟨n, hn⟩ : ∃ n, n = us.length := ⟨_, rfl⟩
  have HN := Shut.mk hn
  dsimp only [hov] at HO2
  rw [← hn] at HCP HO1 hl ⊢
  clear hr hf hu ht hRR hP hk1 hk2 hn HPF
  have HS0 := Shut.mk ((((SL.start w).new #[.int .i64 id, .bool up, .slice a n cap] 26).new #[.int .i64 ug, .int .i64 ui, .string ut, .int .i64 us0] 32).new #[.int .i64 0, .bool false, .slice none 0 0] 26)
  simp only [World.size_alloc] at HS0
  go_enter Tryd.func22, Tryd.ntmps22
  go_upto_region 1 with fail
  refine wp_shade (fun W => SL w W [bxS (w.heap.size + 1 + 1) [.int .i64 0, .bool false, .slice none 0 0], bxS (w.heap.size + 1) [.int .i64 ug, .int .i64 ui, .string ut, .int .i64 us0], bxS w.heap.size [.int .i64 id, .bool up, .slice a n cap]]) HS0.out ?_
  intro W0 hW
  have H := Shut.mk hW
  clear HS0 hW
  have x0 := (H.out.bx 2 rfl 0 _ rfl).1
  have x1 := (H.out.bx 2 rfl 1 _ rfl).1
  have x2 := (H.out.bx 2 rfl 2 _ rfl).1
  go_upto_region 2 with (go_at_call 48; refine (HCP.out _ H.out.bel).mono ?_; rintro e w1 ⟨ac, cc, rfl, hF, hcc, hb⟩; have HS1 := Shut.mk (H.out.add (s := rwS ac (unS us) W0.heap.size w1.heap.size) hb hF (rwS.loc _ _ _ _) (Nat.le_refl _) (Nat.le_refl _)); clear hF hb H x0 x1 x2)
  generalize W0.heap.size = lc at HS1
  obtain ⟨hc9, hhc⟩ : ∃ q, q = w1.heap.size := ⟨_, rfl⟩
  rw [← hhc] at HS1
  clear hhc
  obtain ⟨b6, hb6⟩ : ∃ q, q = w1.heap.size := ⟨_, rfl⟩
  refine wp_shade (fun W => SL w W [bxS b6 [.int .i64 id, .bool up, .slice ac n cc], rwS ac (unS us) lc hc9, bxS (w.heap.size + 1 + 1) [.int .i64 0, .bool false, .slice none 0 0], bxS (w.heap.size + 1) [.int .i64 ug, .int .i64 ui, .string ut, .int .i64 us0], bxS w.heap.size [.int .i64 id, .bool up, .slice a n cap]]) (by rw [hb6]; exact HS1.out.new _ _) ?_
  intro W2 hW
  have H := Shut.mk hW
  rw [← hb6]
  clear hW hb6 HS1
  have x2 := (H.out.bx 3 rfl 2 _ rfl).1
  have z3 := H.out.bx 3 rfl 3 _ rfl
  obtain ⟨z3, z3z⟩ := z3
  go_upto_region 3 with (go_at_call 19; refine (HSU.out _).mono ?_; rintro e w2 ⟨rfl, rfl⟩)
  have HS3 := Shut.mk (H.out.put 3 rfl 3 (.int .i64 sn) (by simp))
  simp only [List.set_cons_zero, List.set_cons_succ] at HS3
  refine wp_shade (fun W => SL w W [bxS b6 [.int .i64 id, .bool up, .slice ac n cc], rwS ac (unS us) lc hc9, bxS (w.heap.size + 1 + 1) [.int .i64 0, .bool false, .slice none 0 0], bxS (w.heap.size + 1) [.int .i64 ug, .int .i64 ui, .string ut, .int .i64 sn], bxS w.heap.size [.int .i64 id, .bool up, .slice a n cap]]) HS3.out ?_
  intro W3 hW
  have H := Shut.mk hW
  clear hW HS3 x2 z3 z3z
  have HOLD := Shut.mk (OwS.new (ty := 32) (sz := 4) H.out)
  clear H
  go_upto_region 4 with fail
  refine wp_shade (fun W => OwS w W [bxS b6 [.int .i64 id, .bool up, .slice ac n cc], rwS ac (unS us) lc hc9, bxS (w.heap.size + 1 + 1) [.int .i64 0, .bool false, .slice none 0 0], bxS (w.heap.size + 1) [.int .i64 ug, .int .i64 ui, .string ut, .int .i64 sn], bxS w.heap.size [.int .i64 id, .bool up, .slice a n cap]] 32 4 (.slice (some ⟨W3.heap.size, 0, none⟩) 0 0) 0 []) HOLD.out ?_
  intro W4 hW
  clear HOLD
  have HOLD := Shut.mk hW
  clear hW
  go_wp2_with fail
  go_loopw [7, 8] (fun v9 i9 wr => ∃ (k m : Nat) (L : List UnM), i9 = .int .i64 k ∧ k ≤ n ∧ m ≤ k ∧ Shut (L = ((us.take k).filter (unLt · ⟨ug, ui, ut, sn⟩)) ∧ m = L.length) ∧ Shut (OwS w wr [bxS b6 [.int .i64 id, .bool up, .slice ac n cc], rwS ac (unS us) lc hc9, bxS (w.heap.size + 1 + 1) [.int .i64 0, .bool false, .slice none 0 0], bxS (w.heap.size + 1) [.int .i64 ug, .int .i64 ui, .string ut, .int .i64 sn], bxS w.heap.size [.int .i64 id, .bool up, .slice a n cap]] 32 4 v9 m (unS L))) (fun _ i9 _ => n - (intOf i9).toNat)
  case atStart => exact ⟨0, 0, [], rfl, Nat.zero_le _, Nat.le_refl _, ⟨by simp⟩, HOLD⟩
  case round =>
    clear HOLD
    obtain ⟨k, m, L, rfl, hk, hm, HL, HW⟩ := hrel
    obtain ⟨av, cv, rfl⟩ := own_row_slice HW.out.own
    have x2 := (HW.out.sl.bx 4 rfl 2 _ rfl).1
    by_cases hlt : k < n
    · have hku : k < us.length := by rw [← HN.out]; exact hlt
      obtain ⟨b, off, x, rfl, hx, lb, hc⟩ := un_at HR.out HW.out.sl.bel hku
      have lw := (show WCells wr w.heap.size _ from HW.out.sl.at 4 rfl).1
      have lu := (show WCells wr (w.heap.size + 1) _ from HW.out.sl.at 3 rfl).1
      have k0 : (0 : Int) ≤ (k : Int) := by omega
      have k1 : (k : Int) < (n : Int) := by omega
      have gx : ∀ X : Grow wr, X.val.cell? ⟨w.heap.size, 2, none⟩ = some (.slice (some ⟨b, off, none⟩) n cap) := fun X => X.cell x2 lw
      have u0 : ∀ X : Grow wr, X.val.cell? ⟨w.heap.size + 1, 0, none⟩ = some (.int .i64 ug) := fun X => X.cell (HW.out.sl.bx 3 rfl 0 _ rfl).1 lu
      have u1 : ∀ X : Grow wr, X.val.cell? ⟨w.heap.size + 1, 1, none⟩ = some (.int .i64 ui) := fun X => X.cell (HW.out.sl.bx 3 rfl 1 _ rfl).1 lu
      have u2 : ∀ X : Grow wr, X.val.cell? ⟨w.heap.size + 1, 2, none⟩ = some (.string ut) := fun X => X.cell (HW.out.sl.bx 3 rfl 2 _ rfl).1 lu
      have u3 : ∀ X : Grow wr, X.val.cell? ⟨w.heap.size + 1, 3, none⟩ = some (.int .i64 sn) := fun X => X.cell (HW.out.sl.bx 3 rfl 3 _ rfl).1 lu
      have p0 : ∀ X : Grow wr, X.val.cell? ⟨b, off + k * 4, none⟩ = some (.int .i64 x.group) := fun X => (hc X.val X.bel).1
      have p1 : ∀ X : Grow wr, X.val.cell? ⟨b, off + k * 4 + 1, none⟩ = some (.int .i64 x.index) := fun X => (hc X.val X.bel).2.1
      have p2 : ∀ X : Grow wr, X.val.cell? ⟨b, off + k * 4 + 2, none⟩ = some (.string x.text) := fun X => (hc X.val X.bel).2.2.1
      have p3 : ∀ X : Grow wr, X.val.cell? ⟨b, off + k * 4 + 3, none⟩ = some (.int .i64 x.sum) := fun X => (hc X.val X.bel).2.2.2
      have HAH := Shut.mk (fun X => calls_grow (w := wr) (fun W' (_ : Below wr.heap.size wr W') => specAhead x ⟨ug, ui, ut, sn⟩ W') X)
      have HNX : Shut ((us.take (k + 1)).filter (unLt · ⟨ug, ui, ut, sn⟩) = (us.take k).filter (unLt · ⟨ug, ui, ut, sn⟩) ++ if unLt x ⟨ug, ui, ut, sn⟩ = true then [x] else []) := ⟨by rw [hx]; exact filter_tk _ us k hku⟩
      have HC := Shut.mk hc
      clear hc hx lw lu
      go_upto_region 7 with fail
      clear x2
      cases hal : unLt x ⟨ug, ui, ut, sn⟩ with
      | false =>
        rw [hal] at HAH HNX
        refine wp_region_grow (by kernel_rfl) (by kernel_rfl) ?_
        repeat (go_big_quiet_step (first | (go_at_call 49; with_reducible exact HAH.out _)))
        refine wpQuiet_nil ?_
        rintro _ ⟨X, rfl⟩
        have H2 := Shut.mk (HW.out.below X.bel)
        clear gx u0 u1 u2 u3 p0 p1 p2 p3
        go_wp2_with fail
        go_roundw
        case rel => exact ⟨k + 1, m, L, by go_num, by omega, by omega, ⟨by rw [HNX.out]; simpa using HL.out⟩, H2⟩
        case measure => simp [intOf]; omega
      | true =>
        rw [hal] at HAH HNX
        refine wp_region_grow (by kernel_rfl) (by kernel_rfl) ?_
        repeat (go_big_quiet_step (first | (go_at_call 49; with_reducible exact HAH.out _)))
        refine wpQuiet_nil ?_
        rintro _ ⟨X, rfl⟩
        have H2 := Shut.mk (HW.out.below X.bel)
        have y2 := gx X
        have d0 := p0 X
        have d1 := p1 X
        have d2 := p2 X
        have d3 := p3 X
        have lbX : b < X.val.heap.size := Nat.lt_of_lt_of_le lb (Nat.le_trans HW.out.sl.bel.size X.bel.size)
        clear gx u0 u1 u2 u3 p0 p1 p2 p3
        obtain ⟨W2, hb2⟩ := X
        dsimp only at *
        have hown := H2.out.own
        have hbs := H2.out.sl.bel.size
        go_wp2_with (at_builtin; refine wpList_append_own_at _ rfl _ _ 24 rfl w.heap.size 32 i0 _ 4 40 Tryd.underlying24 hin hz0 hz1 hz2 rfl (by decide) _ _ _ rfl (hown.alloc _) ⟨W2.heap.size, 0, none⟩ 1 1 [.int .i64 x.group, .int .i64 x.index, .string x.text, .int .i64 x.sum] rfl rfl (World.news_of_block (cs := #[.int .i64 x.group, .int .i64 x.index, .string x.text, .int .i64 x.sum]) (t := 32) (fr := (0, 0)) (heap_alloc_new W2 _)) ?c25 ?c35 ?c45 ?c55 ?_)
        case c25 => simp [Value.oneCell']
        case c35 => unfold maxLen; omega
        case c45 => omega
        case c55 => first | omega | (simp; omega)
        intro v5 w5 ho hg _ hat
        have HL5 := Shut.mk (H2.out.more ((Below.refl _ _).alloc (Nat.le_refl _) _) ho hg (by simpa using hat))
        clear ho hg hat hown hbs
        go_wp2_with fail
        go_roundw
        case rel => exact ⟨k + 1, m + 1, L ++ [x], by go_num, by omega, by omega, ⟨⟨by rw [HNX.out]; simp only [if_true]; rw [← HL.out.1], by rw [List.length_append, ← HL.out.2]; rfl⟩⟩, ⟨by rw [uns_snoc]; exact HL5.out⟩⟩
        case measure => simp [intOf]; omega
    · obtain rfl : n = k := by omega
      have HLN : Shut (L = (us.filter (unLt · ⟨ug, ui, ut, sn⟩)) ∧ m = L.length) := ⟨by have := HL.out; rwa [List.take_of_length_le (by have := HN.out; omega)] at this⟩
      clear HL hlt
      have HL1N := HLN
      clear HLN
      obtain ⟨L1, hL1⟩ : ∃ q, q = L ++ [(⟨ug, ui, ut, sn⟩ : UnM)] := ⟨_, rfl⟩
      obtain ⟨m1, hm1⟩ : ∃ q, q = m + 1 := ⟨_, rfl⟩
      have u0 := (HW.out.sl.bx 3 rfl 0 _ rfl).1
      have u1 := (HW.out.sl.bx 3 rfl 1 _ rfl).1
      have u2 := (HW.out.sl.bx 3 rfl 2 _ rfl).1
      have u3 := (HW.out.sl.bx 3 rfl 3 _ rfl).1
      have hown := HW.out.own
      have hbs := HW.out.sl.bel.size
      go_wp2_with (at_builtin; refine wpList_append_own_at _ rfl _ _ 24 rfl w.heap.size 32 i0 _ 4 40 Tryd.underlying24 hin hz0 hz1 hz2 rfl (by decide) _ _ _ rfl (hown.alloc _) ⟨wr.heap.size, 0, none⟩ 1 1 [.int .i64 ug, .int .i64 ui, .string ut, .int .i64 sn] rfl rfl (World.news_of_block (cs := #[.int .i64 ug, .int .i64 ui, .string ut, .int .i64 sn]) (t := 32) (fr := (0, 0)) (heap_alloc_new wr _)) ?c27 ?c37 ?c47 ?c57 ?_)
      case c27 => simp [Value.oneCell']
      case c37 => unfold maxLen; omega
      case c47 => omega
      case c57 => first | omega | (simp; omega)
      intro v7 w7 ho hg _ hat
      have HL7 := Shut.mk (HW.out.more ((Below.refl _ _).alloc (Nat.le_refl _) _) ho hg (by simpa using hat))
      clear ho hg hat hown hbs
      replace HL1N : Shut (L1 = us.filter (unLt · ⟨ug, ui, ut, sn⟩) ++ [(⟨ug, ui, ut, sn⟩ : UnM)] ∧ m1 = L1.length) := ⟨by rw [hL1, hm1, List.length_append, ← HL1N.out.2, HL1N.out.1]; exact ⟨rfl, rfl⟩⟩
      have HOLD : Shut (OwS w w7 [bxS b6 [.int .i64 id, .bool up, .slice ac n cc], rwS ac (unS us) lc hc9, bxS (w.heap.size + 1 + 1) [.int .i64 0, .bool false, .slice none 0 0], bxS (w.heap.size + 1) [.int .i64 ug, .int .i64 ui, .string ut, .int .i64 sn], bxS w.heap.size [.int .i64 id, .bool up, .slice a n cap]] 32 4 v7 m1 (unS L1)) := ⟨by rw [hL1, hm1, uns_snoc]; exact HL7.out⟩
      have hm9 : m1 ≤ n + 1 := by omega
      clear hL1 hm1 HL7 HW u0 u1 u2 u3 x2 hm
      go_wp2_with fail
      go_loopw [7, 9] (fun v9 i9 wr => ∃ (k m : Nat) (L : List UnM), i9 = .int .i64 k ∧ k ≤ n ∧ m ≤ m1 + k ∧ Shut (L = L1 ++ ((us.take k).filter (unLt ⟨ug, ui, ut, sn⟩ ·)) ∧ m = L.length) ∧ Shut (OwS w wr [bxS b6 [.int .i64 id, .bool up, .slice ac n cc], rwS ac (unS us) lc hc9, bxS (w.heap.size + 1 + 1) [.int .i64 0, .bool false, .slice none 0 0], bxS (w.heap.size + 1) [.int .i64 ug, .int .i64 ui, .string ut, .int .i64 sn], bxS w.heap.size [.int .i64 id, .bool up, .slice a n cap]] 32 4 v9 m (unS L))) (fun _ i9 _ => n - (intOf i9).toNat)
      case atStart => exact ⟨0, m1, L1, rfl, Nat.zero_le _, Nat.le_refl _, ⟨by simpa using HL1N.out.2⟩, HOLD⟩
      case round =>
        clear HOLD
        obtain ⟨k, m, L, rfl, hk, hm, HL, HW⟩ := hrel
        obtain ⟨av, cv, rfl⟩ := own_row_slice HW.out.own
        have x2 := (HW.out.sl.bx 4 rfl 2 _ rfl).1
        by_cases hlt : k < n
        · have hku : k < us.length := by rw [← HN.out]; exact hlt
          obtain ⟨b, off, x, rfl, hx, lb, hc⟩ := un_at HR.out HW.out.sl.bel hku
          have lw := (show WCells wr w.heap.size _ from HW.out.sl.at 4 rfl).1
          have lu := (show WCells wr (w.heap.size + 1) _ from HW.out.sl.at 3 rfl).1
          have k0 : (0 : Int) ≤ (k : Int) := by omega
          have k1 : (k : Int) < (n : Int) := by omega
          have gx : ∀ X : Grow wr, X.val.cell? ⟨w.heap.size, 2, none⟩ = some (.slice (some ⟨b, off, none⟩) n cap) := fun X => X.cell x2 lw
          have u0 : ∀ X : Grow wr, X.val.cell? ⟨w.heap.size + 1, 0, none⟩ = some (.int .i64 ug) := fun X => X.cell (HW.out.sl.bx 3 rfl 0 _ rfl).1 lu
          have u1 : ∀ X : Grow wr, X.val.cell? ⟨w.heap.size + 1, 1, none⟩ = some (.int .i64 ui) := fun X => X.cell (HW.out.sl.bx 3 rfl 1 _ rfl).1 lu
          have u2 : ∀ X : Grow wr, X.val.cell? ⟨w.heap.size + 1, 2, none⟩ = some (.string ut) := fun X => X.cell (HW.out.sl.bx 3 rfl 2 _ rfl).1 lu
          have u3 : ∀ X : Grow wr, X.val.cell? ⟨w.heap.size + 1, 3, none⟩ = some (.int .i64 sn) := fun X => X.cell (HW.out.sl.bx 3 rfl 3 _ rfl).1 lu
          have p0 : ∀ X : Grow wr, X.val.cell? ⟨b, off + k * 4, none⟩ = some (.int .i64 x.group) := fun X => (hc X.val X.bel).1
          have p1 : ∀ X : Grow wr, X.val.cell? ⟨b, off + k * 4 + 1, none⟩ = some (.int .i64 x.index) := fun X => (hc X.val X.bel).2.1
          have p2 : ∀ X : Grow wr, X.val.cell? ⟨b, off + k * 4 + 2, none⟩ = some (.string x.text) := fun X => (hc X.val X.bel).2.2.1
          have p3 : ∀ X : Grow wr, X.val.cell? ⟨b, off + k * 4 + 3, none⟩ = some (.int .i64 x.sum) := fun X => (hc X.val X.bel).2.2.2
          have HAH := Shut.mk (fun X => calls_grow (w := wr) (fun W' (_ : Below wr.heap.size wr W') => specAhead ⟨ug, ui, ut, sn⟩ x W') X)
          have HNX : Shut ((us.take (k + 1)).filter (unLt ⟨ug, ui, ut, sn⟩ ·) = (us.take k).filter (unLt ⟨ug, ui, ut, sn⟩ ·) ++ if unLt ⟨ug, ui, ut, sn⟩ x = true then [x] else []) := ⟨by rw [hx]; exact filter_tk _ us k hku⟩
          have HC := Shut.mk hc
          clear hc hx lw lu
          go_upto_region 13 with fail
          clear x2
          cases hal : unLt ⟨ug, ui, ut, sn⟩ x with
          | false =>
            rw [hal] at HAH HNX
            refine wp_region_grow (by kernel_rfl) (by kernel_rfl) ?_
            repeat (go_big_quiet_step (first | (go_at_call 49; with_reducible exact HAH.out _)))
            refine wpQuiet_nil ?_
            rintro _ ⟨X, rfl⟩
            have H2 := Shut.mk (HW.out.below X.bel)
            clear gx u0 u1 u2 u3 p0 p1 p2 p3
            go_wp2_with fail
            go_roundw
            case rel => exact ⟨k + 1, m, L, by go_num, by omega, by omega, ⟨by rw [HNX.out]; simpa using HL.out⟩, H2⟩
            case measure => simp [intOf]; omega
          | true =>
            rw [hal] at HAH HNX
            refine wp_region_grow (by kernel_rfl) (by kernel_rfl) ?_
            repeat (go_big_quiet_step (first | (go_at_call 49; with_reducible exact HAH.out _)))
            refine wpQuiet_nil ?_
            rintro _ ⟨X, rfl⟩
            have H2 := Shut.mk (HW.out.below X.bel)
            have y2 := gx X
            have d0 := p0 X
            have d1 := p1 X
            have d2 := p2 X
            have d3 := p3 X
            have lbX : b < X.val.heap.size := Nat.lt_of_lt_of_le lb (Nat.le_trans HW.out.sl.bel.size X.bel.size)
            clear gx u0 u1 u2 u3 p0 p1 p2 p3
            obtain ⟨W2, hb2⟩ := X
            dsimp only at *
            have hown := H2.out.own
            have hbs := H2.out.sl.bel.size
            go_wp2_with (at_builtin; refine wpList_append_own_at _ rfl _ _ 24 rfl w.heap.size 32 i0 _ 4 40 Tryd.underlying24 hin hz0 hz1 hz2 rfl (by decide) _ _ _ rfl (hown.alloc _) ⟨W2.heap.size, 0, none⟩ 1 1 [.int .i64 x.group, .int .i64 x.index, .string x.text, .int .i64 x.sum] rfl rfl (World.news_of_block (cs := #[.int .i64 x.group, .int .i64 x.index, .string x.text, .int .i64 x.sum]) (t := 32) (fr := (0, 0)) (heap_alloc_new W2 _)) ?c26 ?c36 ?c46 ?c56 ?_)
            case c26 => simp [Value.oneCell']
            case c36 => unfold maxLen; omega
            case c46 => omega
            case c56 => first | omega | (simp; omega)
            intro v6 w6 ho hg _ hat
            have HL6 := Shut.mk (H2.out.more ((Below.refl _ _).alloc (Nat.le_refl _) _) ho hg (by simpa using hat))
            clear ho hg hat hown hbs
            go_wp2_with fail
            go_roundw
            case rel => exact ⟨k + 1, m + 1, L ++ [x], by go_num, by omega, by omega, ⟨⟨by rw [HNX.out]; simp only [if_true]; rw [← List.append_assoc, ← HL.out.1], by rw [List.length_append, ← HL.out.2]; rfl⟩⟩, ⟨by rw [uns_snoc]; exact HL6.out⟩⟩
            case measure => simp [intOf]; omega
        · obtain rfl : n = k := by omega
          have HLN : Shut (L = L1 ++ (us.filter (unLt ⟨ug, ui, ut, sn⟩ ·)) ∧ m = L.length) := ⟨by have := HL.out; rwa [List.take_of_length_le (by have := HN.out; omega)] at this⟩
          clear HL hlt
          have hz := HW.out.sl.bx 4 rfl 0 _ rfl
          have x0 := (HW.out.sl.bx 4 rfl 0 _ rfl).1
          have x1 := (HW.out.sl.bx 4 rfl 1 _ rfl).1
          have HPE : Shut (P = L ∧ m = P.length) := ⟨by
            have e : P = L := by rw [HP.out, HLN.out.1, HL1N.out.1]; unfold putL; rfl
            exact ⟨e, by rw [e]; exact HLN.out.2⟩⟩
          rw [← HPE.out.1] at HW
          clear hz
          go_upto_region 16 with fail
          obtain ⟨b10, hb10⟩ : ∃ q, q = wr.heap.size := ⟨_, rfl⟩
          have HB := Shut.mk (HW.out.box #[.int .i64 id, .bool up, .slice av m cv] 26)
          rw [← hb10] at HB
          refine wp_shade (fun W => OwS w W (bxS b10 [.int .i64 id, .bool up, .slice av m cv] :: [bxS b6 [.int .i64 id, .bool up, .slice ac n cc], rwS ac (unS us) lc hc9, bxS (w.heap.size + 1 + 1) [.int .i64 0, .bool false, .slice none 0 0], bxS (w.heap.size + 1) [.int .i64 ug, .int .i64 ui, .string ut, .int .i64 sn], bxS w.heap.size [.int .i64 id, .bool up, .slice a n cap]]) 32 4 (.slice av m cv) m (unS P)) HB.out ?_
          intro W9 hW
          rw [← hb10]
          have H := Shut.mk hW
          obtain ⟨a8, c8, e8, hrow8, hc8⟩ := H.out.row
          obtain ⟨rfl, rfl⟩ : av = a8 ∧ cv = c8 := by simpa using e8
          have HRW := Shut.mk hrow8
          have HMP : Shut (P.length = m ∧ P.length ≤ 9000000) := ⟨by have := HPE.out.2; omega⟩
          replace HO2 := Shut.mk (fun (W : World) (hb : Below W9.heap.size W9 W) => HO2.out W av cv HMP.out.2 (HRW.out.stays hb))
          rw [HMP.out.1] at HO2
          clear hW hb10 HB HW hrow8 e8 x0 x1 x2
          have x0 := (H.out.sl.bx 5 rfl 0 _ rfl).1
          have x1 := (H.out.sl.bx 5 rfl 1 _ rfl).1
          have x2 := (H.out.sl.bx 5 rfl 2 _ rfl).1
          cases ok1 with
          | false =>
            have HE : Shut (RR = (⟨id, up, us⟩, false)) := ⟨by rw [HQ.out]; simp⟩
            go_upto_region 17 with (first | (go_at_call 50; refine (HO1.out _ H.out.sl.bel).mono ?_; rintro e wa ⟨rfl, hba⟩; have H1 := Shut.mk (H.out.below hba); have HBA := Shut.mk hba; clear hba H x0 x1 x2; have x1 := (H1.out.sl.bx 5 rfl 1 _ rfl).1; have y0 := (H1.out.sl.bx 0 rfl 0 _ rfl).1; have y1 := (H1.out.sl.bx 0 rfl 1 _ rfl).1; have y2 := (H1.out.sl.bx 0 rfl 2 _ rfl).1))
            have z0 := (H1.out.sl.bx 1 rfl 0 _ rfl).1
            have z1 := (H1.out.sl.bx 1 rfl 1 _ rfl).1
            have z2 := (H1.out.sl.bx 1 rfl 2 _ rfl).1
            obtain ⟨r0, r0z⟩ := H1.out.sl.bx 3 rfl 0 _ rfl
            obtain ⟨r1, r1z⟩ := H1.out.sl.bx 3 rfl 1 _ rfl
            obtain ⟨r2, r2z⟩ := H1.out.sl.bx 3 rfl 2 _ rfl
            go_wp2_with fail
            have HE3 := Shut.mk ((((H1.out.put 3 rfl 0 (.int .i64 id) (by simp)).put 3 rfl 1 (.bool up) (by simp)).put 3 rfl 2 (.slice ac n cc) (by simp)))
            refine bodyPost_ret (v := .tuple #[.agg #[.int .i64 id, .bool up, .slice ac n cc], .bool false]) (by simp [results, Tryd.results22, go_sem, r0, r1, r2]) rfl ?_
            rw [HE.out]
            have hs := HE3.out.sl.is _ (List.mem_of_getElem? (show _[2]? = some (rwS ac (unS us) lc hc9) from rfl))
            exact ⟨ac, cc, by rw [HN.out], frw_wide (show FRw _ ac (unS us) lc hc9 from hs.1) hs.2.2.1 hs.2.2.2, by have := HN.out; show us.length ≤ cc; omega, HE3.out.sl.bel⟩
          | true =>
            cases up with
            | false =>
              have HE : Shut (RR = (⟨id, false, us⟩, false)) := ⟨by rw [HQ.out]; simp⟩
              go_upto_region 17 with (first | (go_at_call 50; refine (HO1.out _ H.out.sl.bel).mono ?_; rintro e wa ⟨rfl, hba⟩; have H1 := Shut.mk (H.out.below hba); have HBA := Shut.mk hba; clear hba H x0 x1 x2; have x1 := (H1.out.sl.bx 5 rfl 1 _ rfl).1; have y0 := (H1.out.sl.bx 0 rfl 0 _ rfl).1; have y1 := (H1.out.sl.bx 0 rfl 1 _ rfl).1; have y2 := (H1.out.sl.bx 0 rfl 2 _ rfl).1))
              have z0 := (H1.out.sl.bx 1 rfl 0 _ rfl).1
              have z1 := (H1.out.sl.bx 1 rfl 1 _ rfl).1
              have z2 := (H1.out.sl.bx 1 rfl 2 _ rfl).1
              obtain ⟨r0, r0z⟩ := H1.out.sl.bx 3 rfl 0 _ rfl
              obtain ⟨r1, r1z⟩ := H1.out.sl.bx 3 rfl 1 _ rfl
              obtain ⟨r2, r2z⟩ := H1.out.sl.bx 3 rfl 2 _ rfl
              go_wp2_with fail
              have HE3 := Shut.mk ((((H1.out.put 3 rfl 0 (.int .i64 id) (by simp)).put 3 rfl 1 (.bool false) (by simp)).put 3 rfl 2 (.slice ac n cc) (by simp)))
              refine bodyPost_ret (v := .tuple #[.agg #[.int .i64 id, .bool false, .slice ac n cc], .bool false]) (by simp [results, Tryd.results22, go_sem, r0, r1, r2]) rfl ?_
              rw [HE.out]
              have hs := HE3.out.sl.is _ (List.mem_of_getElem? (show _[2]? = some (rwS ac (unS us) lc hc9) from rfl))
              exact ⟨ac, cc, by rw [HN.out], frw_wide (show FRw _ ac (unS us) lc hc9 from hs.1) hs.2.2.1 hs.2.2.2, by have := HN.out; show us.length ≤ cc; omega, HE3.out.sl.bel⟩
            | true =>
              cases ok2 with
              | false =>
                have HE : Shut (RR = (⟨id, true, us⟩, false)) := ⟨by rw [HQ.out]; simp⟩
                go_upto_region 17 with (first | (go_at_call 50; refine (HO1.out _ H.out.sl.bel).mono ?_; rintro e wa ⟨rfl, hba⟩; have H1 := Shut.mk (H.out.below hba); have HBA := Shut.mk hba; clear hba H x0 x1 x2; have x1 := (H1.out.sl.bx 5 rfl 1 _ rfl).1; have y0 := (H1.out.sl.bx 0 rfl 0 _ rfl).1; have y1 := (H1.out.sl.bx 0 rfl 1 _ rfl).1; have y2 := (H1.out.sl.bx 0 rfl 2 _ rfl).1) | (go_at_call 50; refine (HO2.out _ HBA.out).mono ?_; rintro e wb ⟨rfl, hbb⟩; have H2 := Shut.mk (H1.out.below hbb); clear hbb H1 x1 y0 y1 y2))
                have z0 := (H2.out.sl.bx 1 rfl 0 _ rfl).1
                have z1 := (H2.out.sl.bx 1 rfl 1 _ rfl).1
                have z2 := (H2.out.sl.bx 1 rfl 2 _ rfl).1
                obtain ⟨r0, r0z⟩ := H2.out.sl.bx 3 rfl 0 _ rfl
                obtain ⟨r1, r1z⟩ := H2.out.sl.bx 3 rfl 1 _ rfl
                obtain ⟨r2, r2z⟩ := H2.out.sl.bx 3 rfl 2 _ rfl
                go_wp2_with fail
                have HE3 := Shut.mk ((((H2.out.put 3 rfl 0 (.int .i64 id) (by simp)).put 3 rfl 1 (.bool true) (by simp)).put 3 rfl 2 (.slice ac n cc) (by simp)))
                refine bodyPost_ret (v := .tuple #[.agg #[.int .i64 id, .bool true, .slice ac n cc], .bool false]) (by simp [results, Tryd.results22, go_sem, r0, r1, r2]) rfl ?_
                rw [HE.out]
                have hs := HE3.out.sl.is _ (List.mem_of_getElem? (show _[2]? = some (rwS ac (unS us) lc hc9) from rfl))
                exact ⟨ac, cc, by rw [HN.out], frw_wide (show FRw _ ac (unS us) lc hc9 from hs.1) hs.2.2.1 hs.2.2.2, by have := HN.out; show us.length ≤ cc; omega, HE3.out.sl.bel⟩
              | true =>
                have HE : Shut (RR = (⟨id, true, P⟩, true)) := ⟨by rw [HQ.out]; simp⟩
                go_upto_region 18 with (first | (go_at_call 50; refine (HO1.out _ H.out.sl.bel).mono ?_; rintro e wa ⟨rfl, hba⟩; have H1 := Shut.mk (H.out.below hba); have HBA := Shut.mk hba; clear hba H x0 x1 x2; have x1 := (H1.out.sl.bx 5 rfl 1 _ rfl).1; have y0 := (H1.out.sl.bx 0 rfl 0 _ rfl).1; have y1 := (H1.out.sl.bx 0 rfl 1 _ rfl).1; have y2 := (H1.out.sl.bx 0 rfl 2 _ rfl).1) | (go_at_call 50; refine (HO2.out _ HBA.out).mono ?_; rintro e wb ⟨rfl, hbb⟩; have H2 := Shut.mk (H1.out.below hbb); clear hbb H1 x1 y0 y1 y2))
                have z0 := (H2.out.sl.bx 0 rfl 0 _ rfl).1
                have z1 := (H2.out.sl.bx 0 rfl 1 _ rfl).1
                have z2 := (H2.out.sl.bx 0 rfl 2 _ rfl).1
                obtain ⟨r0, r0z⟩ := H2.out.sl.bx 3 rfl 0 _ rfl
                obtain ⟨r1, r1z⟩ := H2.out.sl.bx 3 rfl 1 _ rfl
                obtain ⟨r2, r2z⟩ := H2.out.sl.bx 3 rfl 2 _ rfl
                go_wp2_with fail
                have HE3 := Shut.mk ((((H2.out.put 3 rfl 0 (.int .i64 id) (by simp)).put 3 rfl 1 (.bool true) (by simp)).put 3 rfl 2 (.slice av m cv) (by simp)))
                obtain ⟨a9, c9, e9, hf9, hc9'⟩ := HE3.out.frw
                obtain ⟨rfl, rfl⟩ : av = a9 ∧ cv = c9 := by simpa using e9
                refine bodyPost_ret (v := .tuple #[.agg #[.int .i64 id, .bool true, .slice av m cv], .bool true]) (by simp [results, Tryd.results22, go_sem, r0, r1, r2]) rfl ?_
                rw [HE.out]
                exact ⟨av, cv, by rw [← HMP.out.1], hf9, by have := HMP.out.1; show P.length ≤ cv; omega, HE3.out.sl.bel⟩
end Go.Proofs.YtbanfccnmbmcfaaDoor
