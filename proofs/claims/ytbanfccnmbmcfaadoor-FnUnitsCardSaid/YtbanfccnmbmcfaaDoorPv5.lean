/- Texts of ours, laid one behind the other: SpK, BRowM, FieldM, FieldN, SpL, GrwE, DrHo. -/
import Derived.Test.YtbanfccnmbmcfaaDoorPv4
import Derived.Deep.RegionHeld3
import Derived.Deep.DrawnRows
/- SpK: The model's PutUnit (written by gen/mkput.py). -/
namespace Go.Proofs.YtbanfccnmbmcfaaDoor
set_option maxRecDepth 100000
open Go.RowKit BigFrame
attribute [local go_sem ↓] Go.wp_at_zero Go.wp_at_succ

theorem uns_snoc (us : List UnM) (u : UnM) : unS (us ++ [u]) = unS us ++ unC u := by simp [unS]
theorem filter_tk {α : Type} (f : α → Bool) (L : List α) (k : Nat) (h : k < L.length) : (L.take (k + 1)).filter f = (L.take k).filter f ++ if f L[k] = true then [L[k]] else [] := by
  rw [List.take_succ_eq_append_getElem h, List.filter_append]
  congr 1
  split <;> simp [*]
/-- A host and a flag: a host whose row is its own. -/
def HbPost (r : HM × Bool) (w : World) (e : Ending) (w' : World) : Prop := ∃ a cap, e = .returned (.tuple #[hov r.1 a cap, .bool r.2]) ∧ FRw w' a (unS r.1.us) w.heap.size w'.heap.size ∧ r.1.us.length ≤ cap ∧ Below w.heap.size w w'
theorem put_fits {us : List UnM} {u : UnM} (h : UnFits us) (hu : UnFit u) (hl : us.length ≤ 1048576) : UnFits (putL us u) := by
  unfold putL
  have l1 := List.length_filter_le (unLt · u) us
  have l2 := List.length_filter_le (unLt u ·) us
  refine ⟨by simp only [List.length_append, List.length_singleton]; omega, fun x hx => ?_⟩
  simp only [List.mem_append, List.mem_filter, List.mem_singleton] at hx
  rcases hx with (hx | rfl) | hx
  · exact h.2 x hx.1
  · exact hu
  · exact h.2 x hx.1
theorem frw_wide {W : World} {va : Option Addr} {X : List Value} {lo hi lo' hi' : Nat} (h : FRw W va X lo hi) (h1 : lo' ≤ lo) (h2 : hi ≤ hi') : FRw W va X lo' hi' := by
  rcases h with e | ⟨g, e, q1, q2, q3⟩
  · exact .inl e
  · exact .inr ⟨g, e, by omega, by omega, q3⟩
set_option maxRecDepth 100000 in
set_option maxHeartbeats 8000000 in
theorem specPutUnit (H : HM) (a : Option Addr) (cap : Nat) (u : UnM) (w : World) (hr : UnRow w a H.us) (hl : H.us.length ≤ 1048576) (hf : UnFits H.us) (hu : UnFit u) (ht : u.text.size ≤ 1048576) :
    Calls Tryd.prog 22 #[hov H a cap, unv u] w fun e w' => HbPost (putX H u) w e w' := by
  obtain ⟨i0, hin, hz0, hz1, hz2⟩ := info_parts infoUnit
  have HR := Shut.mk hr
  have HCP := Shut.mk (fun (W : World) (hb : Below w.heap.size w W) => specCopy14 H a cap W (hr.stays hb) (by omega))
  have HO1 := Shut.mk (fun (W : World) (hb : Below w.heap.size w W) => specHostOk H a cap W (hr.stays hb) (by omega) hf)
  have HPF := Shut.mk (put_fits (u := summed u) hf ⟨hu.1, hu.2.1, hu.2.2.1, by have := sumN_low u.text; show -9223372036854775808 ≤ sumN u.text ∧ sumN u.text ≤ 9223372036854775807; omega⟩ (by omega))
  have HSU := Shut.mk (fun W => specSumText u.text W ht)
  unfold HoPost at HCP
  obtain ⟨id, up, us⟩ := H
  obtain ⟨ug, ui, ut, us0⟩ := u
  obtain ⟨RR, hRR⟩ : ∃ q, q = putX ⟨id, up, us⟩ ⟨ug, ui, ut, us0⟩ := ⟨_, rfl⟩
  rw [← hRR]
  have HQ := Shut.mk hRR
  unfold putX summed at HQ
  dsimp only [summed] at HPF HQ
  show Calls Tryd.prog 22 #[.agg #[.int .i64 id, .bool up, .slice a us.length cap], .agg #[.int .i64 ug, .int .i64 ui, .string ut, .int .i64 us0]] w fun e w' => HbPost RR w e w'
  dsimp only [hov] at *
  generalize sumN ut = sn at *
  obtain ⟨P, hP⟩ : ∃ q, q = putL us ⟨ug, ui, ut, sn⟩ := ⟨_, rfl⟩
  rw [← hP] at HQ HPF
  have HO2 := Shut.mk (fun (W : World) (b : Option Addr) (c : Nat) (hp : P.length ≤ 9000000) (h : UnRow W b P) => specHostOk ⟨id, up, P⟩ b c W h hp HPF.out)
  obtain ⟨ok1, hk1⟩ : ∃ q, q = hostOk ⟨id, up, us⟩ := ⟨_, rfl⟩
  obtain ⟨ok2, hk2⟩ : ∃ q, q = hostOk ⟨id, up, P⟩ := ⟨_, rfl⟩
  rw [← hk1] at HQ HO1
  rw [← hk2] at HQ HO2
  have HP := Shut.mk hP
  obtain ⟨n, hn⟩ : ∃ n, n = us.length := ⟨_, rfl⟩
  have HN := Shut.mk hn
  dsimp only [hov] at HO2
  rw [← hn] at HCP HO1 hl ⊢
  clear hr hf hu ht hRR hP hk1 hk2 hn HPF
  have HS0 := Shut.mk ((((SL.start w).new #[.int .i64 id, .bool up, .slice a n cap] 26).new #[.int .i64 ug, .int .i64 ui, .string ut, .int .i64 us0] 32).new #[.int .i64 0, .bool false, .slice none 0 0] 26)
  simp only [World.size_alloc] at HS0
  go_enter Tryd.func22, Tryd.ntmps22
  go_upto_region 1 with fail
  refine wp_shade (fun W => SL w W [bxS (w.heap.size + 1 + 1) [.int .i64 0, .bool false, .slice none 0 0], bxS (w.heap.size + 1) [.int .i64 ug, .int .i64 ui, .string ut, .int .i64 us0], bxS w.heap.size [.int .i64 id, .bool up, .slice a n cap]]) HS0.out ?_
  intro W0 hW
  have H := Shut.mk hW
  clear HS0 hW
  have x0 := (H.out.bx 2 rfl 0 _ rfl).1
  have x1 := (H.out.bx 2 rfl 1 _ rfl).1
  have x2 := (H.out.bx 2 rfl 2 _ rfl).1
  go_upto_region 2 with (go_at_call 48; refine (HCP.out _ H.out.bel).mono ?_; rintro e w1 ⟨ac, cc, rfl, hF, hcc, hb⟩; have HS1 := Shut.mk (H.out.add (s := rwS ac (unS us) W0.heap.size w1.heap.size) hb hF (rwS.loc _ _ _ _) (Nat.le_refl _) (Nat.le_refl _)); clear hF hb H x0 x1 x2)
  generalize W0.heap.size = lc at HS1
  obtain ⟨hc9, hhc⟩ : ∃ q, q = w1.heap.size := ⟨_, rfl⟩
  rw [← hhc] at HS1
  clear hhc
  obtain ⟨b6, hb6⟩ : ∃ q, q = w1.heap.size := ⟨_, rfl⟩
  refine wp_shade (fun W => SL w W [bxS b6 [.int .i64 id, .bool up, .slice ac n cc], rwS ac (unS us) lc hc9, bxS (w.heap.size + 1 + 1) [.int .i64 0, .bool false, .slice none 0 0], bxS (w.heap.size + 1) [.int .i64 ug, .int .i64 ui, .string ut, .int .i64 us0], bxS w.heap.size [.int .i64 id, .bool up, .slice a n cap]]) (by rw [hb6]; exact HS1.out.new _ _) ?_
  intro W2 hW
  have H := Shut.mk hW
  rw [← hb6]
  clear hW hb6 HS1
  have x2 := (H.out.bx 3 rfl 2 _ rfl).1
  have z3 := H.out.bx 3 rfl 3 _ rfl
  obtain ⟨z3, z3z⟩ := z3
  go_upto_region 3 with (go_at_call 19; refine (HSU.out _).mono ?_; rintro e w2 ⟨rfl, rfl⟩)
  have HS3 := Shut.mk (H.out.put 3 rfl 3 (.int .i64 sn) (by simp))
  simp only [List.set_cons_zero, List.set_cons_succ] at HS3
  refine wp_shade (fun W => SL w W [bxS b6 [.int .i64 id, .bool up, .slice ac n cc], rwS ac (unS us) lc hc9, bxS (w.heap.size + 1 + 1) [.int .i64 0, .bool false, .slice none 0 0], bxS (w.heap.size + 1) [.int .i64 ug, .int .i64 ui, .string ut, .int .i64 sn], bxS w.heap.size [.int .i64 id, .bool up, .slice a n cap]]) HS3.out ?_
  intro W3 hW
  have H := Shut.mk hW
  clear hW HS3 x2 z3 z3z
  have HOLD := Shut.mk (OwS.new (ty := 32) (sz := 4) H.out)
  clear H
  go_upto_region 4 with fail
  refine wp_shade (fun W => OwS w W [bxS b6 [.int .i64 id, .bool up, .slice ac n cc], rwS ac (unS us) lc hc9, bxS (w.heap.size + 1 + 1) [.int .i64 0, .bool false, .slice none 0 0], bxS (w.heap.size + 1) [.int .i64 ug, .int .i64 ui, .string ut, .int .i64 sn], bxS w.heap.size [.int .i64 id, .bool up, .slice a n cap]] 32 4 (.slice (some ⟨W3.heap.size, 0, none⟩) 0 0) 0 []) HOLD.out ?_
  intro W4 hW
  clear HOLD
  have HOLD := Shut.mk hW
  clear hW
  go_wp2_with fail
  go_loopw [7, 8] (fun v9 i9 wr => ∃ (k m : Nat) (L : List UnM), i9 = .int .i64 k ∧ k ≤ n ∧ m ≤ k ∧ Shut (L = ((us.take k).filter (unLt · ⟨ug, ui, ut, sn⟩)) ∧ m = L.length) ∧ Shut (OwS w wr [bxS b6 [.int .i64 id, .bool up, .slice ac n cc], rwS ac (unS us) lc hc9, bxS (w.heap.size + 1 + 1) [.int .i64 0, .bool false, .slice none 0 0], bxS (w.heap.size + 1) [.int .i64 ug, .int .i64 ui, .string ut, .int .i64 sn], bxS w.heap.size [.int .i64 id, .bool up, .slice a n cap]] 32 4 v9 m (unS L))) (fun _ i9 _ => n - (intOf i9).toNat)
  case atStart => exact ⟨0, 0, [], rfl, Nat.zero_le _, Nat.le_refl _, ⟨by simp⟩, HOLD⟩
  case round =>
    clear HOLD
    obtain ⟨k, m, L, rfl, hk, hm, HL, HW⟩ := hrel
    obtain ⟨av, cv, rfl⟩ := own_row_slice HW.out.own
    have x2 := (HW.out.sl.bx 4 rfl 2 _ rfl).1
    by_cases hlt : k < n
    · have hku : k < us.length := by rw [← HN.out]; exact hlt
      obtain ⟨b, off, x, rfl, hx, lb, hc⟩ := un_at HR.out HW.out.sl.bel hku
      have lw := (show WCells wr w.heap.size _ from HW.out.sl.at 4 rfl).1
      have lu := (show WCells wr (w.heap.size + 1) _ from HW.out.sl.at 3 rfl).1
      have k0 : (0 : Int) ≤ (k : Int) := by omega
      have k1 : (k : Int) < (n : Int) := by omega
      have gx : ∀ X : Grow wr, X.val.cell? ⟨w.heap.size, 2, none⟩ = some (.slice (some ⟨b, off, none⟩) n cap) := fun X => X.cell x2 lw
      have u0 : ∀ X : Grow wr, X.val.cell? ⟨w.heap.size + 1, 0, none⟩ = some (.int .i64 ug) := fun X => X.cell (HW.out.sl.bx 3 rfl 0 _ rfl).1 lu
      have u1 : ∀ X : Grow wr, X.val.cell? ⟨w.heap.size + 1, 1, none⟩ = some (.int .i64 ui) := fun X => X.cell (HW.out.sl.bx 3 rfl 1 _ rfl).1 lu
      have u2 : ∀ X : Grow wr, X.val.cell? ⟨w.heap.size + 1, 2, none⟩ = some (.string ut) := fun X => X.cell (HW.out.sl.bx 3 rfl 2 _ rfl).1 lu
      have u3 : ∀ X : Grow wr, X.val.cell? ⟨w.heap.size + 1, 3, none⟩ = some (.int .i64 sn) := fun X => X.cell (HW.out.sl.bx 3 rfl 3 _ rfl).1 lu
      have p0 : ∀ X : Grow wr, X.val.cell? ⟨b, off + k * 4, none⟩ = some (.int .i64 x.group) := fun X => (hc X.val X.bel).1
      have p1 : ∀ X : Grow wr, X.val.cell? ⟨b, off + k * 4 + 1, none⟩ = some (.int .i64 x.index) := fun X => (hc X.val X.bel).2.1
      have p2 : ∀ X : Grow wr, X.val.cell? ⟨b, off + k * 4 + 2, none⟩ = some (.string x.text) := fun X => (hc X.val X.bel).2.2.1
      have p3 : ∀ X : Grow wr, X.val.cell? ⟨b, off + k * 4 + 3, none⟩ = some (.int .i64 x.sum) := fun X => (hc X.val X.bel).2.2.2
      have HAH := Shut.mk (fun X => calls_grow (w := wr) (fun W' (_ : Below wr.heap.size wr W') => specAhead x ⟨ug, ui, ut, sn⟩ W') X)
      have HNX : Shut ((us.take (k + 1)).filter (unLt · ⟨ug, ui, ut, sn⟩) = (us.take k).filter (unLt · ⟨ug, ui, ut, sn⟩) ++ if unLt x ⟨ug, ui, ut, sn⟩ = true then [x] else []) := ⟨by rw [hx]; exact filter_tk _ us k hku⟩
      have HC := Shut.mk hc
      clear hc hx lw lu
      go_upto_region 7 with fail
      clear x2
      cases hal : unLt x ⟨ug, ui, ut, sn⟩ with
      | false =>
        rw [hal] at HAH HNX
        refine wp_region_grow (by kernel_rfl) (by kernel_rfl) ?_
        repeat (go_big_quiet_step (first | (go_at_call 49; with_reducible exact HAH.out _)))
        refine wpQuiet_nil ?_
        rintro _ ⟨X, rfl⟩
        have H2 := Shut.mk (HW.out.below X.bel)
        clear gx u0 u1 u2 u3 p0 p1 p2 p3
        go_wp2_with fail
        go_roundw
        case rel => exact ⟨k + 1, m, L, by go_num, by omega, by omega, ⟨by rw [HNX.out]; simpa using HL.out⟩, H2⟩
        case measure => simp [intOf]; omega
      | true =>
        rw [hal] at HAH HNX
        refine wp_region_grow (by kernel_rfl) (by kernel_rfl) ?_
        repeat (go_big_quiet_step (first | (go_at_call 49; with_reducible exact HAH.out _)))
        refine wpQuiet_nil ?_
        rintro _ ⟨X, rfl⟩
        have H2 := Shut.mk (HW.out.below X.bel)
        have y2 := gx X
        have d0 := p0 X
        have d1 := p1 X
        have d2 := p2 X
        have d3 := p3 X
        have lbX : b < X.val.heap.size := Nat.lt_of_lt_of_le lb (Nat.le_trans HW.out.sl.bel.size X.bel.size)
        clear gx u0 u1 u2 u3 p0 p1 p2 p3
        obtain ⟨W2, hb2⟩ := X
        dsimp only at *
        have hown := H2.out.own
        have hbs := H2.out.sl.bel.size
        go_wp2_with (at_builtin; refine wpList_append_own_at _ rfl _ _ 24 rfl w.heap.size 32 i0 _ 4 40 Tryd.underlying24 hin hz0 hz1 hz2 rfl (by decide) _ _ _ rfl (hown.alloc _) ⟨W2.heap.size, 0, none⟩ 1 1 [.int .i64 x.group, .int .i64 x.index, .string x.text, .int .i64 x.sum] rfl rfl (World.news_of_block (cs := #[.int .i64 x.group, .int .i64 x.index, .string x.text, .int .i64 x.sum]) (t := 32) (fr := (0, 0)) (heap_alloc_new W2 _)) ?c25 ?c35 ?c45 ?c55 ?_)
        case c25 => simp [Value.oneCell']
        case c35 => unfold maxLen; omega
        case c45 => omega
        case c55 => first | omega | (simp; omega)
        intro v5 w5 ho hg _ hat
        have HL5 := Shut.mk (H2.out.more ((Below.refl _ _).alloc (Nat.le_refl _) _) ho hg (by simpa using hat))
        clear ho hg hat hown hbs
        go_wp2_with fail
        go_roundw
        case rel => exact ⟨k + 1, m + 1, L ++ [x], by go_num, by omega, by omega, ⟨⟨by rw [HNX.out]; simp only [if_true]; rw [← HL.out.1], by rw [List.length_append, ← HL.out.2]; rfl⟩⟩, ⟨by rw [uns_snoc]; exact HL5.out⟩⟩
        case measure => simp [intOf]; omega
    · obtain rfl : n = k := by omega
      have HLN : Shut (L = (us.filter (unLt · ⟨ug, ui, ut, sn⟩)) ∧ m = L.length) := ⟨by have := HL.out; rwa [List.take_of_length_le (by have := HN.out; omega)] at this⟩
      clear HL hlt
      have HL1N := HLN
      clear HLN
      obtain ⟨L1, hL1⟩ : ∃ q, q = L ++ [(⟨ug, ui, ut, sn⟩ : UnM)] := ⟨_, rfl⟩
      obtain ⟨m1, hm1⟩ : ∃ q, q = m + 1 := ⟨_, rfl⟩
      have u0 := (HW.out.sl.bx 3 rfl 0 _ rfl).1
      have u1 := (HW.out.sl.bx 3 rfl 1 _ rfl).1
      have u2 := (HW.out.sl.bx 3 rfl 2 _ rfl).1
      have u3 := (HW.out.sl.bx 3 rfl 3 _ rfl).1
      have hown := HW.out.own
      have hbs := HW.out.sl.bel.size
      go_wp2_with (at_builtin; refine wpList_append_own_at _ rfl _ _ 24 rfl w.heap.size 32 i0 _ 4 40 Tryd.underlying24 hin hz0 hz1 hz2 rfl (by decide) _ _ _ rfl (hown.alloc _) ⟨wr.heap.size, 0, none⟩ 1 1 [.int .i64 ug, .int .i64 ui, .string ut, .int .i64 sn] rfl rfl (World.news_of_block (cs := #[.int .i64 ug, .int .i64 ui, .string ut, .int .i64 sn]) (t := 32) (fr := (0, 0)) (heap_alloc_new wr _)) ?c27 ?c37 ?c47 ?c57 ?_)
      case c27 => simp [Value.oneCell']
      case c37 => unfold maxLen; omega
      case c47 => omega
      case c57 => first | omega | (simp; omega)
      intro v7 w7 ho hg _ hat
      have HL7 := Shut.mk (HW.out.more ((Below.refl _ _).alloc (Nat.le_refl _) _) ho hg (by simpa using hat))
      clear ho hg hat hown hbs
      replace HL1N : Shut (L1 = us.filter (unLt · ⟨ug, ui, ut, sn⟩) ++ [(⟨ug, ui, ut, sn⟩ : UnM)] ∧ m1 = L1.length) := ⟨by rw [hL1, hm1, List.length_append, ← HL1N.out.2, HL1N.out.1]; exact ⟨rfl, rfl⟩⟩
      have HOLD : Shut (OwS w w7 [bxS b6 [.int .i64 id, .bool up, .slice ac n cc], rwS ac (unS us) lc hc9, bxS (w.heap.size + 1 + 1) [.int .i64 0, .bool false, .slice none 0 0], bxS (w.heap.size + 1) [.int .i64 ug, .int .i64 ui, .string ut, .int .i64 sn], bxS w.heap.size [.int .i64 id, .bool up, .slice a n cap]] 32 4 v7 m1 (unS L1)) := ⟨by rw [hL1, hm1, uns_snoc]; exact HL7.out⟩
      have hm9 : m1 ≤ n + 1 := by omega
      clear hL1 hm1 HL7 HW u0 u1 u2 u3 x2 hm
      go_wp2_with fail
      go_loopw [7, 9] (fun v9 i9 wr => ∃ (k m : Nat) (L : List UnM), i9 = .int .i64 k ∧ k ≤ n ∧ m ≤ m1 + k ∧ Shut (L = L1 ++ ((us.take k).filter (unLt ⟨ug, ui, ut, sn⟩ ·)) ∧ m = L.length) ∧ Shut (OwS w wr [bxS b6 [.int .i64 id, .bool up, .slice ac n cc], rwS ac (unS us) lc hc9, bxS (w.heap.size + 1 + 1) [.int .i64 0, .bool false, .slice none 0 0], bxS (w.heap.size + 1) [.int .i64 ug, .int .i64 ui, .string ut, .int .i64 sn], bxS w.heap.size [.int .i64 id, .bool up, .slice a n cap]] 32 4 v9 m (unS L))) (fun _ i9 _ => n - (intOf i9).toNat)
      case atStart => exact ⟨0, m1, L1, rfl, Nat.zero_le _, Nat.le_refl _, ⟨by simpa using HL1N.out.2⟩, HOLD⟩
      case round =>
        clear HOLD
        obtain ⟨k, m, L, rfl, hk, hm, HL, HW⟩ := hrel
        obtain ⟨av, cv, rfl⟩ := own_row_slice HW.out.own
        have x2 := (HW.out.sl.bx 4 rfl 2 _ rfl).1
        by_cases hlt : k < n
        · have hku : k < us.length := by rw [← HN.out]; exact hlt
          obtain ⟨b, off, x, rfl, hx, lb, hc⟩ := un_at HR.out HW.out.sl.bel hku
          have lw := (show WCells wr w.heap.size _ from HW.out.sl.at 4 rfl).1
          have lu := (show WCells wr (w.heap.size + 1) _ from HW.out.sl.at 3 rfl).1
          have k0 : (0 : Int) ≤ (k : Int) := by omega
          have k1 : (k : Int) < (n : Int) := by omega
          have gx : ∀ X : Grow wr, X.val.cell? ⟨w.heap.size, 2, none⟩ = some (.slice (some ⟨b, off, none⟩) n cap) := fun X => X.cell x2 lw
          have u0 : ∀ X : Grow wr, X.val.cell? ⟨w.heap.size + 1, 0, none⟩ = some (.int .i64 ug) := fun X => X.cell (HW.out.sl.bx 3 rfl 0 _ rfl).1 lu
          have u1 : ∀ X : Grow wr, X.val.cell? ⟨w.heap.size + 1, 1, none⟩ = some (.int .i64 ui) := fun X => X.cell (HW.out.sl.bx 3 rfl 1 _ rfl).1 lu
          have u2 : ∀ X : Grow wr, X.val.cell? ⟨w.heap.size + 1, 2, none⟩ = some (.string ut) := fun X => X.cell (HW.out.sl.bx 3 rfl 2 _ rfl).1 lu
          have u3 : ∀ X : Grow wr, X.val.cell? ⟨w.heap.size + 1, 3, none⟩ = some (.int .i64 sn) := fun X => X.cell (HW.out.sl.bx 3 rfl 3 _ rfl).1 lu
          have p0 : ∀ X : Grow wr, X.val.cell? ⟨b, off + k * 4, none⟩ = some (.int .i64 x.group) := fun X => (hc X.val X.bel).1
          have p1 : ∀ X : Grow wr, X.val.cell? ⟨b, off + k * 4 + 1, none⟩ = some (.int .i64 x.index) := fun X => (hc X.val X.bel).2.1
          have p2 : ∀ X : Grow wr, X.val.cell? ⟨b, off + k * 4 + 2, none⟩ = some (.string x.text) := fun X => (hc X.val X.bel).2.2.1
          have p3 : ∀ X : Grow wr, X.val.cell? ⟨b, off + k * 4 + 3, none⟩ = some (.int .i64 x.sum) := fun X => (hc X.val X.bel).2.2.2
          have HAH := Shut.mk (fun X => calls_grow (w := wr) (fun W' (_ : Below wr.heap.size wr W') => specAhead ⟨ug, ui, ut, sn⟩ x W') X)
          have HNX : Shut ((us.take (k + 1)).filter (unLt ⟨ug, ui, ut, sn⟩ ·) = (us.take k).filter (unLt ⟨ug, ui, ut, sn⟩ ·) ++ if unLt ⟨ug, ui, ut, sn⟩ x = true then [x] else []) := ⟨by rw [hx]; exact filter_tk _ us k hku⟩
          have HC := Shut.mk hc
          clear hc hx lw lu
          go_upto_region 13 with fail
          clear x2
          cases hal : unLt ⟨ug, ui, ut, sn⟩ x with
          | false =>
            rw [hal] at HAH HNX
            refine wp_region_grow (by kernel_rfl) (by kernel_rfl) ?_
            repeat (go_big_quiet_step (first | (go_at_call 49; with_reducible exact HAH.out _)))
            refine wpQuiet_nil ?_
            rintro _ ⟨X, rfl⟩
            have H2 := Shut.mk (HW.out.below X.bel)
            clear gx u0 u1 u2 u3 p0 p1 p2 p3
            go_wp2_with fail
            go_roundw
            case rel => exact ⟨k + 1, m, L, by go_num, by omega, by omega, ⟨by rw [HNX.out]; simpa using HL.out⟩, H2⟩
            case measure => simp [intOf]; omega
          | true =>
            rw [hal] at HAH HNX
            refine wp_region_grow (by kernel_rfl) (by kernel_rfl) ?_
            repeat (go_big_quiet_step (first | (go_at_call 49; with_reducible exact HAH.out _)))
            refine wpQuiet_nil ?_
            rintro _ ⟨X, rfl⟩
            have H2 := Shut.mk (HW.out.below X.bel)
            have y2 := gx X
            have d0 := p0 X
            have d1 := p1 X
            have d2 := p2 X
            have d3 := p3 X
            have lbX : b < X.val.heap.size := Nat.lt_of_lt_of_le lb (Nat.le_trans HW.out.sl.bel.size X.bel.size)
            clear gx u0 u1 u2 u3 p0 p1 p2 p3
            obtain ⟨W2, hb2⟩ := X
            dsimp only at *
            have hown := H2.out.own
            have hbs := H2.out.sl.bel.size
            go_wp2_with (at_builtin; refine wpList_append_own_at _ rfl _ _ 24 rfl w.heap.size 32 i0 _ 4 40 Tryd.underlying24 hin hz0 hz1 hz2 rfl (by decide) _ _ _ rfl (hown.alloc _) ⟨W2.heap.size, 0, none⟩ 1 1 [.int .i64 x.group, .int .i64 x.index, .string x.text, .int .i64 x.sum] rfl rfl (World.news_of_block (cs := #[.int .i64 x.group, .int .i64 x.index, .string x.text, .int .i64 x.sum]) (t := 32) (fr := (0, 0)) (heap_alloc_new W2 _)) ?c26 ?c36 ?c46 ?c56 ?_)
            case c26 => simp [Value.oneCell']
            case c36 => unfold maxLen; omega
            case c46 => omega
            case c56 => first | omega | (simp; omega)
            intro v6 w6 ho hg _ hat
            have HL6 := Shut.mk (H2.out.more ((Below.refl _ _).alloc (Nat.le_refl _) _) ho hg (by simpa using hat))
            clear ho hg hat hown hbs
            go_wp2_with fail
            go_roundw
            case rel => exact ⟨k + 1, m + 1, L ++ [x], by go_num, by omega, by omega, ⟨⟨by rw [HNX.out]; simp only [if_true]; rw [← List.append_assoc, ← HL.out.1], by rw [List.length_append, ← HL.out.2]; rfl⟩⟩, ⟨by rw [uns_snoc]; exact HL6.out⟩⟩
            case measure => simp [intOf]; omega
        · obtain rfl : n = k := by omega
          have HLN : Shut (L = L1 ++ (us.filter (unLt ⟨ug, ui, ut, sn⟩ ·)) ∧ m = L.length) := ⟨by have := HL.out; rwa [List.take_of_length_le (by have := HN.out; omega)] at this⟩
          clear HL hlt
          have hz := HW.out.sl.bx 4 rfl 0 _ rfl
          have x0 := (HW.out.sl.bx 4 rfl 0 _ rfl).1
          have x1 := (HW.out.sl.bx 4 rfl 1 _ rfl).1
          have HPE : Shut (P = L ∧ m = P.length) := ⟨by
            have e : P = L := by rw [HP.out, HLN.out.1, HL1N.out.1]; unfold putL; rfl
            exact ⟨e, by rw [e]; exact HLN.out.2⟩⟩
          rw [← HPE.out.1] at HW
          clear hz
          go_upto_region 16 with fail
          obtain ⟨b10, hb10⟩ : ∃ q, q = wr.heap.size := ⟨_, rfl⟩
          have HB := Shut.mk (HW.out.box #[.int .i64 id, .bool up, .slice av m cv] 26)
          rw [← hb10] at HB
          refine wp_shade (fun W => OwS w W (bxS b10 [.int .i64 id, .bool up, .slice av m cv] :: [bxS b6 [.int .i64 id, .bool up, .slice ac n cc], rwS ac (unS us) lc hc9, bxS (w.heap.size + 1 + 1) [.int .i64 0, .bool false, .slice none 0 0], bxS (w.heap.size + 1) [.int .i64 ug, .int .i64 ui, .string ut, .int .i64 sn], bxS w.heap.size [.int .i64 id, .bool up, .slice a n cap]]) 32 4 (.slice av m cv) m (unS P)) HB.out ?_
          intro W9 hW
          rw [← hb10]
          have H := Shut.mk hW
          obtain ⟨a8, c8, e8, hrow8, hc8⟩ := H.out.row
          obtain ⟨rfl, rfl⟩ : av = a8 ∧ cv = c8 := by simpa using e8
          have HRW := Shut.mk hrow8
          have HMP : Shut (P.length = m ∧ P.length ≤ 9000000) := ⟨by have := HPE.out.2; omega⟩
          replace HO2 := Shut.mk (fun (W : World) (hb : Below W9.heap.size W9 W) => HO2.out W av cv HMP.out.2 (HRW.out.stays hb))
          rw [HMP.out.1] at HO2
          clear hW hb10 HB HW hrow8 e8 x0 x1 x2
          have x0 := (H.out.sl.bx 5 rfl 0 _ rfl).1
          have x1 := (H.out.sl.bx 5 rfl 1 _ rfl).1
          have x2 := (H.out.sl.bx 5 rfl 2 _ rfl).1
          cases ok1 with
          | false =>
            have HE : Shut (RR = (⟨id, up, us⟩, false)) := ⟨by rw [HQ.out]; simp⟩
            go_upto_region 17 with (first | (go_at_call 50; refine (HO1.out _ H.out.sl.bel).mono ?_; rintro e wa ⟨rfl, hba⟩; have H1 := Shut.mk (H.out.below hba); have HBA := Shut.mk hba; clear hba H x0 x1 x2; have x1 := (H1.out.sl.bx 5 rfl 1 _ rfl).1; have y0 := (H1.out.sl.bx 0 rfl 0 _ rfl).1; have y1 := (H1.out.sl.bx 0 rfl 1 _ rfl).1; have y2 := (H1.out.sl.bx 0 rfl 2 _ rfl).1))
            have z0 := (H1.out.sl.bx 1 rfl 0 _ rfl).1
            have z1 := (H1.out.sl.bx 1 rfl 1 _ rfl).1
            have z2 := (H1.out.sl.bx 1 rfl 2 _ rfl).1
            obtain ⟨r0, r0z⟩ := H1.out.sl.bx 3 rfl 0 _ rfl
            obtain ⟨r1, r1z⟩ := H1.out.sl.bx 3 rfl 1 _ rfl
            obtain ⟨r2, r2z⟩ := H1.out.sl.bx 3 rfl 2 _ rfl
            go_wp2_with fail
            have HE3 := Shut.mk ((((H1.out.put 3 rfl 0 (.int .i64 id) (by simp)).put 3 rfl 1 (.bool up) (by simp)).put 3 rfl 2 (.slice ac n cc) (by simp)))
            refine bodyPost_ret (v := .tuple #[.agg #[.int .i64 id, .bool up, .slice ac n cc], .bool false]) (by simp [results, Tryd.results22, go_sem, r0, r1, r2]) rfl ?_
            rw [HE.out]
            have hs := HE3.out.sl.is _ (List.mem_of_getElem? (show _[2]? = some (rwS ac (unS us) lc hc9) from rfl))
            exact ⟨ac, cc, by rw [HN.out], frw_wide (show FRw _ ac (unS us) lc hc9 from hs.1) hs.2.2.1 hs.2.2.2, by have := HN.out; show us.length ≤ cc; omega, HE3.out.sl.bel⟩
          | true =>
            cases up with
            | false =>
              have HE : Shut (RR = (⟨id, false, us⟩, false)) := ⟨by rw [HQ.out]; simp⟩
              go_upto_region 17 with (first | (go_at_call 50; refine (HO1.out _ H.out.sl.bel).mono ?_; rintro e wa ⟨rfl, hba⟩; have H1 := Shut.mk (H.out.below hba); have HBA := Shut.mk hba; clear hba H x0 x1 x2; have x1 := (H1.out.sl.bx 5 rfl 1 _ rfl).1; have y0 := (H1.out.sl.bx 0 rfl 0 _ rfl).1; have y1 := (H1.out.sl.bx 0 rfl 1 _ rfl).1; have y2 := (H1.out.sl.bx 0 rfl 2 _ rfl).1))
              have z0 := (H1.out.sl.bx 1 rfl 0 _ rfl).1
              have z1 := (H1.out.sl.bx 1 rfl 1 _ rfl).1
              have z2 := (H1.out.sl.bx 1 rfl 2 _ rfl).1
              obtain ⟨r0, r0z⟩ := H1.out.sl.bx 3 rfl 0 _ rfl
              obtain ⟨r1, r1z⟩ := H1.out.sl.bx 3 rfl 1 _ rfl
              obtain ⟨r2, r2z⟩ := H1.out.sl.bx 3 rfl 2 _ rfl
              go_wp2_with fail
              have HE3 := Shut.mk ((((H1.out.put 3 rfl 0 (.int .i64 id) (by simp)).put 3 rfl 1 (.bool false) (by simp)).put 3 rfl 2 (.slice ac n cc) (by simp)))
              refine bodyPost_ret (v := .tuple #[.agg #[.int .i64 id, .bool false, .slice ac n cc], .bool false]) (by simp [results, Tryd.results22, go_sem, r0, r1, r2]) rfl ?_
              rw [HE.out]
              have hs := HE3.out.sl.is _ (List.mem_of_getElem? (show _[2]? = some (rwS ac (unS us) lc hc9) from rfl))
              exact ⟨ac, cc, by rw [HN.out], frw_wide (show FRw _ ac (unS us) lc hc9 from hs.1) hs.2.2.1 hs.2.2.2, by have := HN.out; show us.length ≤ cc; omega, HE3.out.sl.bel⟩
            | true =>
              cases ok2 with
              | false =>
                have HE : Shut (RR = (⟨id, true, us⟩, false)) := ⟨by rw [HQ.out]; simp⟩
                go_upto_region 17 with (first | (go_at_call 50; refine (HO1.out _ H.out.sl.bel).mono ?_; rintro e wa ⟨rfl, hba⟩; have H1 := Shut.mk (H.out.below hba); have HBA := Shut.mk hba; clear hba H x0 x1 x2; have x1 := (H1.out.sl.bx 5 rfl 1 _ rfl).1; have y0 := (H1.out.sl.bx 0 rfl 0 _ rfl).1; have y1 := (H1.out.sl.bx 0 rfl 1 _ rfl).1; have y2 := (H1.out.sl.bx 0 rfl 2 _ rfl).1) | (go_at_call 50; refine (HO2.out _ HBA.out).mono ?_; rintro e wb ⟨rfl, hbb⟩; have H2 := Shut.mk (H1.out.below hbb); clear hbb H1 x1 y0 y1 y2))
                have z0 := (H2.out.sl.bx 1 rfl 0 _ rfl).1
                have z1 := (H2.out.sl.bx 1 rfl 1 _ rfl).1
                have z2 := (H2.out.sl.bx 1 rfl 2 _ rfl).1
                obtain ⟨r0, r0z⟩ := H2.out.sl.bx 3 rfl 0 _ rfl
                obtain ⟨r1, r1z⟩ := H2.out.sl.bx 3 rfl 1 _ rfl
                obtain ⟨r2, r2z⟩ := H2.out.sl.bx 3 rfl 2 _ rfl
                go_wp2_with fail
                have HE3 := Shut.mk ((((H2.out.put 3 rfl 0 (.int .i64 id) (by simp)).put 3 rfl 1 (.bool true) (by simp)).put 3 rfl 2 (.slice ac n cc) (by simp)))
                refine bodyPost_ret (v := .tuple #[.agg #[.int .i64 id, .bool true, .slice ac n cc], .bool false]) (by simp [results, Tryd.results22, go_sem, r0, r1, r2]) rfl ?_
                rw [HE.out]
                have hs := HE3.out.sl.is _ (List.mem_of_getElem? (show _[2]? = some (rwS ac (unS us) lc hc9) from rfl))
                exact ⟨ac, cc, by rw [HN.out], frw_wide (show FRw _ ac (unS us) lc hc9 from hs.1) hs.2.2.1 hs.2.2.2, by have := HN.out; show us.length ≤ cc; omega, HE3.out.sl.bel⟩
              | true =>
                have HE : Shut (RR = (⟨id, true, P⟩, true)) := ⟨by rw [HQ.out]; simp⟩
                go_upto_region 18 with (first | (go_at_call 50; refine (HO1.out _ H.out.sl.bel).mono ?_; rintro e wa ⟨rfl, hba⟩; have H1 := Shut.mk (H.out.below hba); have HBA := Shut.mk hba; clear hba H x0 x1 x2; have x1 := (H1.out.sl.bx 5 rfl 1 _ rfl).1; have y0 := (H1.out.sl.bx 0 rfl 0 _ rfl).1; have y1 := (H1.out.sl.bx 0 rfl 1 _ rfl).1; have y2 := (H1.out.sl.bx 0 rfl 2 _ rfl).1) | (go_at_call 50; refine (HO2.out _ HBA.out).mono ?_; rintro e wb ⟨rfl, hbb⟩; have H2 := Shut.mk (H1.out.below hbb); clear hbb H1 x1 y0 y1 y2))
                have z0 := (H2.out.sl.bx 0 rfl 0 _ rfl).1
                have z1 := (H2.out.sl.bx 0 rfl 1 _ rfl).1
                have z2 := (H2.out.sl.bx 0 rfl 2 _ rfl).1
                obtain ⟨r0, r0z⟩ := H2.out.sl.bx 3 rfl 0 _ rfl
                obtain ⟨r1, r1z⟩ := H2.out.sl.bx 3 rfl 1 _ rfl
                obtain ⟨r2, r2z⟩ := H2.out.sl.bx 3 rfl 2 _ rfl
                go_wp2_with fail
                have HE3 := Shut.mk ((((H2.out.put 3 rfl 0 (.int .i64 id) (by simp)).put 3 rfl 1 (.bool true) (by simp)).put 3 rfl 2 (.slice av m cv) (by simp)))
                obtain ⟨a9, c9, e9, hf9, hc9'⟩ := HE3.out.frw
                obtain ⟨rfl, rfl⟩ : av = a9 ∧ cv = c9 := by simpa using e9
                refine bodyPost_ret (v := .tuple #[.agg #[.int .i64 id, .bool true, .slice av m cv], .bool true]) (by simp [results, Tryd.results22, go_sem, r0, r1, r2]) rfl ?_
                rw [HE.out]
                exact ⟨av, cv, by rw [← HMP.out.1], hf9, by have := HMP.out.1; show P.length ≤ cv; omega, HE3.out.sl.bel⟩
end Go.Proofs.YtbanfccnmbmcfaaDoor
/- BRowM: Rows of bytes that may be written: of a call's own, and made of a text. -/
namespace Go.Proofs.YtbanfccnmbmcfaaDoor
set_option maxRecDepth 100000
open Go.RowKit

/-- A row of bytes that may be written. -/
def BRow (w : World) (g : Nat) (l : List UInt8) : Prop :=
  g < w.heap.size ∧ ∀ j, j < l.length → w.cell? ⟨g, j, none⟩ = some (.int .u8 ((l.getD j 0).toNat : Int)) ∧ w.frozen? ⟨g, j, none⟩ = false
theorem BRow.set {w : World} {g : Nat} {l : List UInt8} (h : BRow w g l) (i : Nat) (x : UInt8) (hi : i < l.length) : BRow (w.setCell ⟨g, i, none⟩ (.int .u8 (x.toNat : Int))) g (l.set i x) := by
  refine ⟨by have := h.1; simpa [World.setCell] using this, fun j hj => ?_⟩
  rw [List.length_set] at hj
  refine ⟨?_, (World.frozen?_setCell _ _ _ _).trans (h.2 j hj).2⟩
  by_cases e : j = i
  · subst e
    rw [World.cell?_setCell_same _ _ _ (h.2 j hj).1]
    simp [List.getD, hi]
  · rw [World.cell?_setCell_other _ _ _ _ (by first | (simp; done) | (simp; omega)), (h.2 j hj).1]
    simp [List.getD, Ne.symm e]
theorem own_brow {w : World} {B g n cap : Nat} {l : List UInt8} (h : w.ownsRow B 5 1 (.slice (some ⟨g, 0, none⟩) n cap) n (bv l)) : BRow w g l := by
  have hc := h.cells (g := g) rfl
  have hlt := h.lt g rfl
  obtain ⟨_, ⟨h0, _⟩ | ⟨g', cap', cur, he, hB, hcur, _, _, _, _⟩⟩ := h
  · cases h0
  · have eg : g' = g := by simp at he; exact he.1.symm
    subst eg
    refine ⟨hlt.2, fun j hj => ⟨?_, ?_⟩⟩
    · have := hc j _ (show (bv l)[j]? = some _ by simp [bv, hj]; rfl)
      have e : (⟨g', 0, none⟩ : Addr).add j = ⟨g', j, none⟩ := by cases j <;> simp [Addr.add]
      rw [e] at this
      simpa [List.getD, hj] using this
    · unfold World.frozen?
      rw [hcur]; simp
theorem brow_string {w : World} {g cap : Nat} {l : List UInt8} (h : BRow w g l) :
    (convert 22 9 (.slice (some ⟨g, 0, none⟩) l.length cap)).run Tryd.prog w = .ok (.string ⟨l.toArray⟩) w :=
  run_convert_bytes_back w 22 9 5 ⟨g, 0, none⟩ cap l Tryd.underlying22 Tryd.underlying5 Tryd.underlying9 (fun j hj => by
    have e : (⟨g, 0, none⟩ : Addr).add j = ⟨g, j, none⟩ := by cases j <;> simp [Addr.add]
    rw [e, (h.2 j hj).1]
    simp [List.getD, hj])
/-- The bytes of a text, in a block of their own. -/
theorem bytes_made (w : World) (s : ByteArray) : ∃ (w' : World) (c : Nat), (convert 9 22 (.string s)).run Tryd.prog w = .ok (.slice (some ⟨w.heap.size, 0, none⟩) s.size c) w' ∧ BRow w' w.heap.size s.data.toList ∧ Below w.heap.size w w' := by
  refine ⟨_, _, run_bytes_of_string w 9 22 5 s Tryd.underlying9 Tryd.underlying22 Tryd.underlying5, ⟨?_, fun j hj => ⟨?_, ?_⟩⟩, ?_⟩
  · show w.heap.size < (w.heap.push _).size
    simp
  · rw [show w.heap.size = w.drew.heap.size from rfl, World.cell?_alloc_mark]
    have hj' : j < s.data.size := by simpa using hj
    unfold bytesRow
    rw [Array.getElem?_append_left (by simpa using hj')]
    simp only [Array.getElem?_map, List.getD, Array.getElem?_toList]
    rw [Array.getElem?_eq_getElem hj']
    rfl
  · rw [show w.heap.size = w.drew.heap.size from rfl, World.frozen?_alloc_mark]
    have hj' : j < s.data.size := by simpa using hj
    have h2 : j < (bytesRow s (grownCap w s.size 0 5)).size := by unfold bytesRow; rw [Array.size_append, Array.size_map]; omega
    rw [decide_eq_false (show ¬ (bytesRow s (grownCap w s.size 0 5)).size ≤ j by omega)]
    rfl
  · exact (Below.drew (Below.refl _ _)).alloc (Nat.le_refl _) _
end Go.Proofs.YtbanfccnmbmcfaaDoor
/- FieldM: Plain facts on the field of bytes: products of polynomials over bits, modulo the one of the number 285; nothing of the program is read here. -/
namespace Go.Proofs.YtbanfccnmbmcfaaDoor.W
abbrev B8 := BitVec 8

/-- Twice a number. -/
def xt (a : B8) : B8 := if a.msb then (a <<< 1) ^^^ 29#8 else a <<< 1
def gb (b : B8) (i : Nat) (x : B8) : B8 := if b.getLsbD i then x else 0#8
def gm (a b : B8) : B8 :=
  gb b 0 a ^^^ (gb b 1 (xt a) ^^^ (gb b 2 (xt (xt a)) ^^^ (gb b 3 (xt (xt (xt a))) ^^^ (gb b 4 (xt (xt (xt (xt a)))) ^^^ (gb b 5 (xt (xt (xt (xt (xt a))))) ^^^ (gb b 6 (xt (xt (xt (xt (xt (xt a)))))) ^^^ gb b 7 (xt (xt (xt (xt (xt (xt (xt a)))))))))))))
theorem xor_swap (a b c d : B8) : (a ^^^ b) ^^^ (c ^^^ d) = (a ^^^ c) ^^^ (b ^^^ d) := by
  rw [BitVec.xor_assoc, BitVec.xor_assoc, ← BitVec.xor_assoc b c d, BitVec.xor_comm b c, BitVec.xor_assoc c b d]
theorem xor_two (a b : B8) {A B C : B8} (h : A ^^^ B = C) : (a ^^^ A) ^^^ (b ^^^ B) = (a ^^^ b) ^^^ C := by rw [xor_swap, h]
theorem xt_add (a b : B8) : xt (a ^^^ b) = xt a ^^^ xt b := by
  unfold xt
  rw [BitVec.msb_xor, BitVec.shiftLeft_xor_distrib]
  cases a.msb <;> cases b.msb <;> simp
  · rw [BitVec.xor_assoc]
  · rw [BitVec.xor_assoc, BitVec.xor_assoc, BitVec.xor_comm (b <<< 1)]
  · rw [xor_swap, BitVec.xor_self, BitVec.xor_zero]
theorem gb_add (b : B8) (i : Nat) (x y : B8) : gb b i (x ^^^ y) = gb b i x ^^^ gb b i y := by
  unfold gb; cases b.getLsbD i <;> simp
theorem gb_bits (b c : B8) (i : Nat) (x : B8) : gb (b ^^^ c) i x = gb b i x ^^^ gb c i x := by
  unfold gb
  rw [BitVec.getLsbD_xor]
  cases b.getLsbD i <;> cases c.getLsbD i <;> simp
theorem gm_left (a b c : B8) : gm (a ^^^ b) c = gm a c ^^^ gm b c := by
  unfold gm
  simp only [xt_add, gb_add]
  exact (xor_two _ _ (xor_two _ _ (xor_two _ _ (xor_two _ _ (xor_two _ _ (xor_two _ _ (xor_two _ _ rfl))))))).symm
theorem gm_right (a b c : B8) : gm a (b ^^^ c) = gm a b ^^^ gm a c := by
  unfold gm
  simp only [gb_bits]
  exact (xor_two _ _ (xor_two _ _ (xor_two _ _ (xor_two _ _ (xor_two _ _ (xor_two _ _ (xor_two _ _ rfl))))))).symm
theorem xt_zero : xt 0#8 = 0#8 := by decide
theorem gb_zero (b : B8) (i : Nat) : gb b i 0#8 = 0#8 := by unfold gb; simp
theorem gm_zero (a : B8) : gm a 0#8 = 0#8 := by unfold gm gb; simp
theorem zero_gm (a : B8) : gm 0#8 a = 0#8 := by unfold gm; simp only [xt_zero, gb_zero]; simp
/-- One round of the product: the lowest bit, and the rest of them with twice the number. -/
theorem gm_step (a b : B8) : gm a b = gb b 0 a ^^^ gm (xt a) (b >>> 1) := by
  have e : ∀ (i : Nat) (x : B8), gb (b >>> 1) i x = gb b (i + 1) x := fun i x => by unfold gb; rw [BitVec.getLsbD_ushiftRight, Nat.add_comm]
  have h8 : ∀ x : B8, gb b 8 x = 0#8 := fun x => by unfold gb; rw [BitVec.getLsbD_of_ge b 8 (by decide)]; rfl
  unfold gm
  simp only [e]
  rw [show 7 + 1 = 8 from rfl, h8]
  simp
/-- The bits of a number. -/
theorem bits_of : ∀ x : B8, x = gb x 0 1#8 ^^^ (gb x 1 2#8 ^^^ (gb x 2 4#8 ^^^ (gb x 3 8#8 ^^^ (gb x 4 16#8 ^^^ (gb x 5 32#8 ^^^ (gb x 6 64#8 ^^^ gb x 7 128#8)))))) := by decide +kernel
def adds (f : B8 → B8) : Prop := ∀ x y, f (x ^^^ y) = f x ^^^ f y
theorem adds.zero {f : B8 → B8} (h : adds f) : f 0#8 = 0#8 := by
  have := h 0#8 0#8
  rw [BitVec.xor_self, BitVec.xor_self] at this
  exact this
theorem adds.bit {f : B8 → B8} (h : adds f) (x : B8) (i : Nat) (y : B8) : f (gb x i y) = gb x i (f y) := by
  unfold gb; cases x.getLsbD i
  · simp [h.zero]
  · simp
/-- What goes through sums is told by its answers at the eight bits. -/
theorem adds.ext {f g : B8 → B8} (hf : adds f) (hg : adds g) (h : ∀ e ∈ [1#8, 2#8, 4#8, 8#8, 16#8, 32#8, 64#8, 128#8], f e = g e) (x : B8) : f x = g x := by
  have key : ∀ {f : B8 → B8}, adds f → f x = gb x 0 (f 1#8) ^^^ (gb x 1 (f 2#8) ^^^ (gb x 2 (f 4#8) ^^^ (gb x 3 (f 8#8) ^^^ (gb x 4 (f 16#8) ^^^ (gb x 5 (f 32#8) ^^^ (gb x 6 (f 64#8) ^^^ gb x 7 (f 128#8))))))) := fun {f} hf => by
    conv => lhs; rw [bits_of x]
    rw [hf, hf, hf, hf, hf, hf, hf]
    simp only [hf.bit]
  rw [key hf, key hg]
  rw [h 1#8 (by simp), h 2#8 (by simp), h 4#8 (by simp), h 8#8 (by simp), h 16#8 (by simp), h 32#8 (by simp), h 64#8 (by simp), h 128#8 (by simp)]
def eightB : List B8 := [1#8, 2#8, 4#8, 8#8, 16#8, 32#8, 64#8, 128#8]
theorem gm_comm_bits : ∀ x ∈ eightB, ∀ y ∈ eightB, gm x y = gm y x := by decide +kernel
theorem gm_comm (a b : B8) : gm a b = gm b a := by
  refine adds.ext (f := fun x => gm x b) (g := fun x => gm b x) (fun x y => gm_left x y b) (fun x y => gm_right b x y) (fun e he => ?_) a
  exact adds.ext (f := fun y => gm e y) (g := fun y => gm y e) (fun x y => gm_right e x y) (fun x y => gm_left x y e) (fun d hd => gm_comm_bits e he d hd) b
theorem gm_assoc_bits : ∀ x ∈ eightB, ∀ y ∈ eightB, ∀ z ∈ eightB, gm (gm x y) z = gm x (gm y z) := by decide +kernel
theorem gm_assoc (a b c : B8) : gm (gm a b) c = gm a (gm b c) := by
  refine adds.ext (f := fun x => gm (gm x b) c) (g := fun x => gm x (gm b c)) (fun x y => by simp only [gm_left]) (fun x y => gm_left x y _) (fun e he => ?_) a
  refine adds.ext (f := fun y => gm (gm e y) c) (g := fun y => gm e (gm y c)) (fun x y => by simp only [gm_right, gm_left]) (fun x y => by simp only [gm_left, gm_right]) (fun d hd => ?_) b
  exact adds.ext (f := fun z => gm (gm e d) z) (g := fun z => gm e (gm d z)) (fun x y => gm_right _ x y) (fun x y => by simp only [gm_right]) (fun g hg => gm_assoc_bits e he d hd g hg) c
theorem gm_one (a : B8) : gm a 1#8 = a := by
  unfold gm gb; simp
theorem one_gm (a : B8) : gm 1#8 a = a := by rw [gm_comm, gm_one]
/-- Powers. -/
def gp (a : B8) : Nat → B8
  | 0 => 1#8
  | n + 1 => gm (gp a n) a
theorem gp_0 (a : B8) : gp a 0 = 1#8 := rfl
theorem gp_succ (a : B8) (n : Nat) : gp a (n + 1) = gm (gp a n) a := rfl
theorem gp_add (a : B8) (n : Nat) : ∀ m, gm (gp a n) (gp a m) = gp a (n + m)
  | 0 => gm_one _
  | m + 1 => by rw [gp, ← gm_assoc, gp_add a n m]; rfl
theorem gp_two (a : B8) (n : Nat) : gp a (n + n) = gm (gp a n) (gp a n) := (gp_add a n n).symm
theorem gp_one (a : B8) : gp a 1 = a := one_gm a
/-- The product of the powers by 1, 2, 4 .. 128. -/
def round (a : B8) : B8 :=
  let b := gm a a; let c := gm b b; let d := gm c c; let e := gm d d; let f := gm e e; let g := gm f f; let h := gm g g
  gm a (gm b (gm c (gm d (gm e (gm f (gm g h))))))
theorem gp_round (a : B8) : gp a 255 = round a := by
  have h2 : gp a 2 = gm a a := by rw [show 2 = 1 + 1 from rfl, gp_two, gp_one]
  have h4 : gp a 4 = gm (gp a 2) (gp a 2) := gp_two a 2
  have h8 : gp a 8 = gm (gp a 4) (gp a 4) := gp_two a 4
  have h16 : gp a 16 = gm (gp a 8) (gp a 8) := gp_two a 8
  have h32 : gp a 32 = gm (gp a 16) (gp a 16) := gp_two a 16
  have h64 : gp a 64 = gm (gp a 32) (gp a 32) := gp_two a 32
  have h128 : gp a 128 = gm (gp a 64) (gp a 64) := gp_two a 64
  have s7 : gm (gp a 64) (gp a 128) = gp a 192 := gp_add a 64 128
  have s6 : gm (gp a 32) (gp a 192) = gp a 224 := gp_add a 32 192
  have s5 : gm (gp a 16) (gp a 224) = gp a 240 := gp_add a 16 224
  have s4 : gm (gp a 8) (gp a 240) = gp a 248 := gp_add a 8 240
  have s3 : gm (gp a 4) (gp a 248) = gp a 252 := gp_add a 4 248
  have s2 : gm (gp a 2) (gp a 252) = gp a 254 := gp_add a 2 252
  have s1 : gm (gp a 1) (gp a 254) = gp a 255 := gp_add a 1 254
  rw [← s1, ← s2, ← s3, ← s4, ← s5, ← s6, ← s7, h128, h64, h32, h16, h8, h4, h2, gp_one]
  rfl
theorem round_all : ∀ a : B8, a ≠ 0#8 → round a = 1#8 := by decide +kernel
theorem gp_255 (a : B8) (h : a ≠ 0#8) : gp a 255 = 1#8 := by rw [gp_round, round_all a h]
/-- The number with which one is 1. -/
def gi (a : B8) : B8 := if a = 0#8 then 0#8 else gp a 254
theorem gi_zero : gi 0#8 = 0#8 := if_pos rfl
theorem gm_gi (a : B8) (h : a ≠ 0#8) : gm a (gi a) = 1#8 := by
  unfold gi
  rw [if_neg h, gm_comm, ← gp_255 a h]
  rfl
theorem gi_only {a b : B8} (h : gm a b = 1#8) : b = gi a := by
  have h0 : a ≠ 0#8 := by
    intro e; subst e
    rw [zero_gm] at h
    exact absurd h (by decide)
  rw [← gm_one b, ← gm_gi a h0, ← gm_assoc, gm_comm b a, h, one_gm]
end Go.Proofs.YtbanfccnmbmcfaaDoor.W
/- FieldN: Facts that lead from numbers of the program to the field of bytes, and texts that are summed up or taken so many times. -/
namespace Go.Proofs.YtbanfccnmbmcfaaDoor
set_option maxRecDepth 100000
open Go.RowKit
open W (B8)

theorem i64_xor (m n : Nat) (hm : m < 512) (hn : n < 512) : bits .xor .i64 (m : Int) (n : Int) = ((m ^^^ n : Nat) : Int) := by
  have h1 : ∀ k : Nat, k < 512 → (BitVec.ofInt 64 (k : Int)).toNat = k := fun k hk => by rw [BitVec.toNat_ofInt]; omega
  have h2 : m ^^^ n < 2 ^ 9 := Nat.xor_lt_two_pow (by omega) (by omega)
  show IntKind.i64.wrap ((BitVec.ofInt 64 (m : Int) ^^^ BitVec.ofInt 64 (n : Int)).toNat : Nat) = _
  rw [BitVec.toNat_xor, h1 m hm, h1 n hn, IntKind.wrap_i64]
  omega
theorem b8_lt (A : B8) : A.toNat < 256 := A.isLt
theorem i64_xor8 (A B : B8) : bits .xor .i64 (A.toNat : Int) (B.toNat : Int) = ((A ^^^ B).toNat : Int) := by
  rw [i64_xor _ _ (by have := b8_lt A; omega) (by have := b8_lt B; omega), BitVec.toNat_xor]
/-- A number, taken modulo 256. -/
def g8 (x : Int) : B8 := BitVec.ofInt 8 x
theorem g8_nat (x : Int) : ((g8 x).toNat : Int) = x % 256 := by
  unfold g8
  rw [BitVec.toNat_ofInt]
  omega
theorem g8_back (A : B8) : g8 (A.toNat : Int) = A := by
  apply BitVec.eq_of_toNat_eq
  have := g8_nat (A.toNat : Int)
  have := b8_lt A
  omega
theorem g8_mod (x : Int) : g8 (x % 256) = g8 x := by
  apply BitVec.eq_of_toNat_eq
  have := g8_nat (x % 256)
  have := g8_nat x
  omega
namespace W
theorem xt_big : ∀ A : B8, 256 ≤ 2 * A.toNat → (2 * A.toNat) ^^^ 285 = (xt A).toNat := by decide +kernel
theorem xt_small : ∀ A : B8, 2 * A.toNat < 256 → 2 * A.toNat = (xt A).toNat := by decide +kernel
theorem half8 (B : B8) : B.toNat / 2 = (B >>> 1).toNat := by
  rw [BitVec.toNat_ushiftRight, Nat.shiftRight_eq_div_pow]
theorem odd8 (B : B8) : B.getLsbD 0 = decide (B.toNat % 2 = 1) := by rw [BitVec.getLsbD, Nat.testBit_zero]
theorem b8_zero {B : B8} (h : B.toNat = 0) : B = 0#8 := BitVec.eq_of_toNat_eq h

/-- The sum of two texts. -/
def addL : List UInt8 → List UInt8 → List UInt8
  | [], b => b
  | a, [] => a
  | x :: a, y :: b => (x ^^^ y) :: addL a b
theorem addL_nil (a : List UInt8) : addL a [] = a := by cases a <;> rfl
theorem addL_comm : ∀ (a b : List UInt8), addL a b = addL b a
  | [], b => by rw [addL_nil]; cases b <;> rfl
  | x :: a, [] => rfl
  | x :: a, y :: b => by rw [addL, addL, UInt8.xor_comm, addL_comm a b]
theorem addL_len : ∀ (a b : List UInt8), (addL a b).length = max a.length b.length
  | [], b => by simp [addL]
  | x :: a, [] => by simp [addL]
  | x :: a, y :: b => by
    rw [addL, List.length_cons, addL_len a b]
    simp only [List.length_cons]
    omega
theorem addL_twice : ∀ (a b : List UInt8), ∃ r, addL (addL a b) b = a ++ r
  | [], b => ⟨addL b b, by simp [addL]⟩
  | x :: a, [] => ⟨[], by simp [addL]⟩
  | x :: a, y :: b => by
    obtain ⟨r, hr⟩ := addL_twice a b
    refine ⟨r, ?_⟩
    rw [addL, addL, hr, UInt8.xor_assoc, UInt8.xor_self, UInt8.xor_zero]
    rfl
/-- A text so many times. -/
def mulB (A : B8) (c : UInt8) : UInt8 := ⟨gm A c.toBitVec⟩
def mulL (A : B8) (l : List UInt8) : List UInt8 := l.map (mulB A)
theorem mulB_add (A : B8) (x y : UInt8) : mulB A (x ^^^ y) = mulB A x ^^^ mulB A y := by
  unfold mulB
  apply UInt8.eq_of_toBitVec_eq
  simp only [UInt8.toBitVec_xor, gm_right]
theorem mulL_add (A : B8) : ∀ (a b : List UInt8), mulL A (addL a b) = addL (mulL A a) (mulL A b)
  | [], b => rfl
  | x :: a, [] => rfl
  | x :: a, y :: b => by
    have := mulL_add A a b
    unfold mulL at *
    rw [addL, List.map_cons, List.map_cons, List.map_cons, addL, mulB_add, this]
theorem mulL_one (a : List UInt8) : mulL 1#8 a = a := by
  unfold mulL
  rw [show mulB 1#8 = id from funext fun c => by unfold mulB; rw [one_gm]; rfl]
  simp
theorem mulL_len (A : B8) (a : List UInt8) : (mulL A a).length = a.length := by simp [mulL]
/-- The first bytes done, the others as they were. -/
def addTo (a b : List UInt8) (k : Nat) : List UInt8 := addL (a.take k) (b.take k) ++ a.drop k
theorem addTo_all {a b : List UInt8} (h : b.length ≤ a.length) : addTo a b b.length = addL a b := by
  have key : ∀ (a b : List UInt8), b.length ≤ a.length → addL (a.take b.length) b ++ a.drop b.length = addL a b := by
    intro a b
    induction b generalizing a with
    | nil => intro _; simp [addL_nil]
    | cons y b ih =>
      intro h
      cases a with
      | nil => simp at h
      | cons x a =>
        simp only [List.length_cons, List.take_succ_cons, List.drop_succ_cons, addL, List.cons_append]
        rw [ih a (by simpa using h)]
  unfold addTo
  rw [List.take_of_length_le (Nat.le_refl _)]
  exact key a b h
theorem addTo_len {a b : List UInt8} {k : Nat} (h : b.length ≤ a.length) : (addTo a b k).length = a.length := by
  unfold addTo
  rw [List.length_append, addL_len, List.length_drop, List.length_take, List.length_take]
  omega
theorem addL_snoc : ∀ (a b : List UInt8) (x y : UInt8), a.length = b.length → addL (a ++ [x]) (b ++ [y]) = addL a b ++ [x ^^^ y]
  | [], [], x, y, _ => rfl
  | [], _ :: _, _, _, h => by simp at h
  | _ :: _, [], _, _, h => by simp at h
  | c :: a, d :: b, x, y, h => by
    have := addL_snoc a b x y (by simpa using h)
    simp only [List.cons_append, addL, this]
theorem at_mid (P : List UInt8) (x y : UInt8) (R : List UInt8) (k : Nat) (h : P.length = k) : (P ++ x :: R).getD k 0 = x ∧ (P ++ x :: R).set k y = P ++ y :: R := by
  subst h
  refine ⟨by simp [List.getD], ?_⟩
  rw [List.set_append_right _ _ (Nat.le_refl _)]
  simp
theorem getD_at {l : List UInt8} {k : Nat} (h : k < l.length) : l[k] = l.getD k 0 := by simp [List.getD, h]
theorem addTo_step {a b : List UInt8} {k : Nat} (h : b.length ≤ a.length) (hk : k < b.length) :
    (addTo a b k).getD k 0 = a.getD k 0 ∧ (addTo a b k).set k (a.getD k 0 ^^^ b.getD k 0) = addTo a b (k + 1) := by
  have ha : k < a.length := by omega
  have hl : (addL (a.take k) (b.take k)).length = k := by rw [addL_len, List.length_take, List.length_take]; omega
  have e1 : a.drop k = a.getD k 0 :: a.drop (k + 1) := by rw [List.drop_eq_getElem_cons ha, getD_at ha]
  have e2 : a.take (k + 1) = a.take k ++ [a.getD k 0] := by rw [List.take_succ_eq_append_getElem ha, getD_at ha]
  have e3 : b.take (k + 1) = b.take k ++ [b.getD k 0] := by rw [List.take_succ_eq_append_getElem hk, getD_at hk]
  have m := at_mid (addL (a.take k) (b.take k)) (a.getD k 0) (a.getD k 0 ^^^ b.getD k 0) (a.drop (k + 1)) k hl
  unfold addTo
  rw [e1, e2, e3, addL_snoc _ _ _ _ (by rw [List.length_take, List.length_take]; omega), List.append_assoc]
  exact ⟨m.1, m.2⟩
theorem addTo_zero (a b : List UInt8) : addTo a b 0 = a := by simp [addTo, addL]
def mulTo (A : B8) (l : List UInt8) (k : Nat) : List UInt8 := mulL A (l.take k) ++ l.drop k
theorem mulTo_zero (A : B8) (l : List UInt8) : mulTo A l 0 = l := by simp [mulTo, mulL]
theorem mulTo_all (A : B8) (l : List UInt8) {k : Nat} (h : l.length ≤ k) : mulTo A l k = mulL A l := by
  unfold mulTo
  rw [List.take_of_length_le h, List.drop_of_length_le h, List.append_nil]
theorem mulTo_len (A : B8) (l : List UInt8) (k : Nat) : (mulTo A l k).length = l.length := by
  unfold mulTo
  rw [List.length_append, mulL_len, List.length_take, List.length_drop]
  omega
theorem mulTo_step (A : B8) {l : List UInt8} {k : Nat} (h : k < l.length) : (mulTo A l k).getD k 0 = l.getD k 0 ∧ (mulTo A l k).set k (mulB A (l.getD k 0)) = mulTo A l (k + 1) := by
  have e1 : l.drop k = l.getD k 0 :: l.drop (k + 1) := by rw [List.drop_eq_getElem_cons h, getD_at h]
  have e2 : l.take (k + 1) = l.take k ++ [l.getD k 0] := by rw [List.take_succ_eq_append_getElem h, getD_at h]
  have m := at_mid (mulL A (l.take k)) (l.getD k 0) (mulB A (l.getD k 0)) (l.drop (k + 1)) k (by rw [mulL_len, List.length_take]; omega)
  unfold mulTo
  rw [e1, e2]
  refine ⟨m.1, ?_⟩
  rw [m.2]
  simp [mulL]
end W
end Go.Proofs.YtbanfccnmbmcfaaDoor
/- SpL: The model's Spoil (written by gen/mkspoil.py). -/
namespace Go.Proofs.YtbanfccnmbmcfaaDoor
set_option maxRecDepth 100000
open Go.RowKit BigFrame
attribute [local go_sem ↓] Go.wp_at_zero Go.wp_at_succ

theorem bits_one (x : UInt8) : bits .xor .u8 (x.toNat : Int) 1 = ((x ^^^ 1).toNat : Int) := by
  have h : ∀ y : Fin 256, bits .xor .u8 ((UInt8.ofNat y.val).toNat : Int) 1 = ((UInt8.ofNat y.val ^^^ 1).toNat : Int) := by decide +kernel
  have := h ⟨x.toNat, x.toNat_lt⟩
  simpa using this
theorem toList_none : (⟨#[]⟩ : ByteArray).toList = [] := by
  unfold ByteArray.toList ByteArray.toList.loop
  rfl
theorem set_same {α : Type} {Z : List α} {i : Nat} {v : α} (h : Z[i]? = some v) : Z.set i v = Z := by
  obtain ⟨hi, e⟩ := List.getElem?_eq_some_iff.1 h
  subst e
  exact List.set_getElem_self hi
theorem uns_text (us : List UnM) (k : Nat) (h : k < us.length) (T : ByteArray) : (unS us).set (k * 4 + 2) (.string T) = unS (us.set k ⟨us[k].group, us[k].index, T, us[k].sum⟩) := by
  have q := flat_setL unC_len us k h ⟨us[k].group, us[k].index, T, us[k].sum⟩
  have e0 : (unS us)[k * 4]? = some (.int .i64 us[k].group) := flat_get unC_len us k h 0 (by omega)
  have e1 : (unS us)[k * 4 + 1]? = some (.int .i64 us[k].index) := flat_get unC_len us k h 1 (by omega)
  have e3 : (unS us)[k * 4 + 3]? = some (.int .i64 us[k].sum) := flat_get unC_len us k h 3 (by omega)
  have q' : unS (us.set k ⟨us[k].group, us[k].index, T, us[k].sum⟩) = setL (unS us) (k * 4) (unC ⟨us[k].group, us[k].index, T, us[k].sum⟩) := q.symm
  rw [q']
  clear q q'
  generalize unS us = Z at *
  simp only [unC, setL]
  rw [set_same e0, set_same e1]
  exact (set_same (by rw [List.getElem?_set_ne (by omega)]; exact e3)).symm
abbrev byS (b : Nat) (l : List UInt8) : Str := ⟨fun W => BRow W b l, b, b + 1⟩
theorem BRow.turned {w w' : World} {g lo hi : Nat} {L : List UInt8} (h : BRow w g L) (t : Turned w w' lo hi) (hd : g < lo ∨ hi ≤ g) : BRow w' g L :=
  ⟨Nat.lt_of_lt_of_le h.1 t.size, fun i hi => ⟨(World.cell?_of_block (a := ⟨g, i, none⟩) (t.block g h.1 hd)).trans (h.2 i hi).1, (World.frozen?_of_block (a := ⟨g, i, none⟩) (t.block g h.1 hd)).trans (h.2 i hi).2⟩⟩
theorem byS.loc (b : Nat) (l : List UInt8) : (byS b l).Loc := fun _ _ _ _ h t hd => BRow.turned h t (by rcases hd with h | h <;> (dsimp only [byS] at h; omega))
set_option maxRecDepth 100000 in
set_option maxHeartbeats 8000000 in
theorem specSpoil (H : HM) (a : Option Addr) (cap : Nat) (g i at9 : Int) (w : World) (hr : UnRow w a H.us) (hl : H.us.length ≤ 1048576) (hz : unSum H.us ≤ 1048576) (ha : at9 ≤ 9223372036854775807) :
    Calls Tryd.prog 28 #[hov H a cap, .int .i64 g, .int .i64 i, .int .i64 at9] w fun e w' => HbPost (spoilX H g i at9) w e w' := by
  have HR := Shut.mk hr
  have HCP := Shut.mk (fun (W : World) (hb : Below w.heap.size w W) => specCopy14 H a cap W (hr.stays hb) hl)
  have HA := Shut.mk (fun (W : World) (hb : Below w.heap.size w W) => specAt14 H a cap g i W (hr.stays hb) hl)
  have HZ : Shut (∀ u ∈ H.us, u.text.size ≤ 1048576) := ⟨fun u hu => by have := unSum_mem hu; omega⟩
  unfold HoPost at HCP
  clear hr hz
  obtain ⟨id, up, us⟩ := H
  obtain ⟨RR, hRR⟩ : ∃ q, q = spoilX ⟨id, up, us⟩ g i at9 := ⟨_, rfl⟩
  rw [← hRR]
  have HQ := Shut.mk hRR
  unfold spoilX at HQ
  show Calls Tryd.prog 28 #[.agg #[.int .i64 id, .bool up, .slice a us.length cap], .int .i64 g, .int .i64 i, .int .i64 at9] w fun e w' => HbPost RR w e w'
  dsimp only [hov] at *
  obtain ⟨n, hn⟩ : ∃ n, n = us.length := ⟨_, rfl⟩
  have HN := Shut.mk hn
  rw [← hn] at HCP HA hl ⊢
  obtain ⟨ki, hki⟩ : ∃ q, q = atN us g i := ⟨_, rfl⟩
  rw [← hki] at HA
  have HK := Shut.mk hki
  clear hki hRR hn
  have HS0 := Shut.mk (((SL.start w).new #[.int .i64 id, .bool up, .slice a n cap] 26).new #[.int .i64 0, .bool false, .slice none 0 0] 26)
  simp only [World.size_alloc] at HS0
  go_enter Tryd.func28, Tryd.ntmps28
  go_upto_region 1 with fail
  refine wp_shade (fun W => SL w W [bxS (w.heap.size + 1) [.int .i64 0, .bool false, .slice none 0 0], bxS w.heap.size [.int .i64 id, .bool up, .slice a n cap]]) HS0.out ?_
  intro W0 hW
  have H := Shut.mk hW
  clear HS0 hW
  have x0 := (H.out.bx 1 rfl 0 _ rfl).1
  have x1 := (H.out.bx 1 rfl 1 _ rfl).1
  have x2 := (H.out.bx 1 rfl 2 _ rfl).1
  go_upto_region 2 with (go_at_call 48; refine (HCP.out _ H.out.bel).mono ?_; rintro e w1 ⟨ac, cc, rfl, hF, hcc, hb⟩; have HS1 := Shut.mk (H.out.add (s := rwS ac (unS us) W0.heap.size w1.heap.size) hb hF (rwS.loc _ _ _ _) (Nat.le_refl _) (Nat.le_refl _)); clear hF hb H x0 x1 x2)
  generalize W0.heap.size = lc at HS1
  obtain ⟨hc9, hhc⟩ : ∃ q, q = w1.heap.size := ⟨_, rfl⟩
  rw [← hhc] at HS1
  clear hhc
  obtain ⟨b6, hb6⟩ : ∃ q, q = w1.heap.size := ⟨_, rfl⟩
  refine wp_shade (fun W => SL w W [bxS b6 [.int .i64 id, .bool up, .slice ac n cc], rwS ac (unS us) lc hc9, bxS (w.heap.size + 1) [.int .i64 0, .bool false, .slice none 0 0], bxS w.heap.size [.int .i64 id, .bool up, .slice a n cap]]) (by rw [hb6]; exact HS1.out.new _ _) ?_
  intro W2 hW
  have H := Shut.mk hW
  rw [← hb6]
  clear hW hb6 HS1
  have x0 := (H.out.bx 3 rfl 0 _ rfl).1
  have x1 := (H.out.bx 3 rfl 1 _ rfl).1
  have x2 := (H.out.bx 3 rfl 2 _ rfl).1
  go_upto_region 3 with (go_at_call 44; refine (HA.out _ H.out.bel).mono ?_; rintro e w3 ⟨rfl, hb⟩; have HW := Shut.mk (H.out.below hb); clear hb x0 x1 x2 H)
  have lw := (show WCells w3 w.heap.size _ from HW.out.at 3 rfl).1
  have g2 : ∀ X : Grow w3, X.val.cell? ⟨w.heap.size, 2, none⟩ = some (.slice a n cap) := fun X => X.cell (HW.out.bx 3 rfl 2 _ rfl).1 lw
  by_cases hf : unIdx us g i < us.length
  case neg =>
    have hki : ki = -1 := by rw [HK.out, idx_no hf]
    have HE : Shut (RR = (⟨id, up, us⟩, false)) := ⟨by rw [HQ.out]; simp [hf]⟩
    subst hki
    clear hf
    refine wp_region_grow (by kernel_rfl) (by kernel_rfl) ?_
    repeat (go_big_quiet_step (fail))
    refine wpQuiet_nil ?_
    rintro _ ⟨X, rfl⟩
    have H := Shut.mk (HW.out.below X.bel)
    clear g2
    have z0 := (H.out.bx 0 rfl 0 _ rfl).1
    have z1 := (H.out.bx 0 rfl 1 _ rfl).1
    have z2 := (H.out.bx 0 rfl 2 _ rfl).1
    obtain ⟨r0, r0z⟩ := H.out.bx 2 rfl 0 _ rfl
    obtain ⟨r1, r1z⟩ := H.out.bx 2 rfl 1 _ rfl
    obtain ⟨r2, r2z⟩ := H.out.bx 2 rfl 2 _ rfl
    go_wp2_with fail
    have HE3 := Shut.mk ((((H.out.put 2 rfl 0 (.int .i64 id) (by simp)).put 2 rfl 1 (.bool up) (by simp)).put 2 rfl 2 (.slice ac n cc) (by simp)))
    refine bodyPost_ret (v := .tuple #[.agg #[.int .i64 id, .bool up, .slice ac n cc], .bool false]) (by simp [results, Tryd.results28, go_sem, r0, r1, r2]) rfl ?_
    rw [HE.out]
    have hs := HE3.out.is _ (List.mem_of_getElem? (show _[1]? = some (rwS ac (unS us) lc hc9) from rfl))
    exact ⟨_, cc, by rw [HN.out], frw_wide (show FRw _ _ (unS us) lc hc9 from hs.1) hs.2.2.1 hs.2.2.2, by have := HN.out; show us.length ≤ cc; omega, HE3.out.bel⟩
  obtain ⟨k, hk⟩ : ∃ k, k = unIdx us g i := ⟨_, rfl⟩
  have hki : ki = (k : Int) := by rw [HK.out, idx_lt hf, hk]
  rw [← hk] at hf
  obtain ⟨b, off, u, rfl, hu, lb, hc⟩ := un_at HR.out HW.out.bel hf
  have hut : u.text.size ≤ 1048576 := by rw [hu]; exact HZ.out _ (List.getElem_mem hf)
  have HQ2 : Shut (RR = if decide (0 ≤ at9) && !(u.text.toList == []) && unSound u then (⟨id, up, us.set k ⟨u.group, u.index, turnAt u.text (at9.toNat % u.text.size), u.sum⟩⟩, true) else (⟨id, up, us⟩, false)) := ⟨by
    rw [HQ.out, ← hk, getD_un us k hf, ← hu]; simp [hf]⟩
  have HSU := Shut.mk (fun X : Grow w3 => calls_same (w := w3) (fun W' (_ : Below w3.heap.size w3 W') => specSumText u.text W' hut) X)
  unfold unSound at HQ2
  generalize sumN u.text = sn at HQ2 HSU
  subst hki
  have k0 : (0 : Int) ≤ (k : Int) := by omega
  have k1 : (k : Int) < (n : Int) := by have := HN.out; omega
  have k2 : decide ((k : Int) < 0) = false := by simp
  have p2 : ∀ X : Grow w3, X.val.cell? ⟨b, off + k * 4 + 2, none⟩ = some (.string u.text) := fun X => (hc X.val X.bel).2.2.1
  have p3 : ∀ X : Grow w3, X.val.cell? ⟨b, off + k * 4 + 3, none⟩ = some (.int .i64 u.sum) := fun X => (hc X.val X.bel).2.2.2
  have HC := Shut.mk hc
  have HU := Shut.mk hu
  clear hc hk hu
  by_cases hat : 0 ≤ at9
  case neg =>
    have ha2 : decide (at9 < 0) = true := by simp; omega
    have HE : Shut (RR = (⟨id, up, us⟩, false)) := ⟨by rw [HQ2.out, decide_eq_false hat]; rfl⟩
    refine wp_region_grow (by kernel_rfl) (by kernel_rfl) ?_
    repeat (go_big_quiet_step (fail))
    refine wpQuiet_nil ?_
    rintro _ ⟨X, rfl⟩
    have H := Shut.mk (HW.out.below X.bel)
    clear p2 p3 g2
    have z0 := (H.out.bx 0 rfl 0 _ rfl).1
    have z1 := (H.out.bx 0 rfl 1 _ rfl).1
    have z2 := (H.out.bx 0 rfl 2 _ rfl).1
    obtain ⟨r0, r0z⟩ := H.out.bx 2 rfl 0 _ rfl
    obtain ⟨r1, r1z⟩ := H.out.bx 2 rfl 1 _ rfl
    obtain ⟨r2, r2z⟩ := H.out.bx 2 rfl 2 _ rfl
    go_wp2_with fail
    have HE3 := Shut.mk ((((H.out.put 2 rfl 0 (.int .i64 id) (by simp)).put 2 rfl 1 (.bool up) (by simp)).put 2 rfl 2 (.slice ac n cc) (by simp)))
    refine bodyPost_ret (v := .tuple #[.agg #[.int .i64 id, .bool up, .slice ac n cc], .bool false]) (by simp [results, Tryd.results28, go_sem, r0, r1, r2]) rfl ?_
    rw [HE.out]
    have hs := HE3.out.is _ (List.mem_of_getElem? (show _[1]? = some (rwS ac (unS us) lc hc9) from rfl))
    exact ⟨_, cc, by rw [HN.out], frw_wide (show FRw _ _ (unS us) lc hc9 from hs.1) hs.2.2.1 hs.2.2.2, by have := HN.out; show us.length ≤ cc; omega, HE3.out.bel⟩
  have ha2 : decide (at9 < 0) = false := by simp; omega
  rw [decide_eq_true hat] at HQ2
  cases hte : u.text.toList == [] with
  | true =>
    have HE : Shut (RR = (⟨id, up, us⟩, false)) := ⟨by rw [HQ2.out, hte]; rfl⟩
    refine wp_region_grow (by kernel_rfl) (by kernel_rfl) ?_
    repeat (go_big_quiet_step (fail))
    refine wpQuiet_nil ?_
    rintro _ ⟨X, rfl⟩
    have H := Shut.mk (HW.out.below X.bel)
    clear p2 p3 g2
    have z0 := (H.out.bx 0 rfl 0 _ rfl).1
    have z1 := (H.out.bx 0 rfl 1 _ rfl).1
    have z2 := (H.out.bx 0 rfl 2 _ rfl).1
    obtain ⟨r0, r0z⟩ := H.out.bx 2 rfl 0 _ rfl
    obtain ⟨r1, r1z⟩ := H.out.bx 2 rfl 1 _ rfl
    obtain ⟨r2, r2z⟩ := H.out.bx 2 rfl 2 _ rfl
    go_wp2_with fail
    have HE3 := Shut.mk ((((H.out.put 2 rfl 0 (.int .i64 id) (by simp)).put 2 rfl 1 (.bool up) (by simp)).put 2 rfl 2 (.slice ac n cc) (by simp)))
    refine bodyPost_ret (v := .tuple #[.agg #[.int .i64 id, .bool up, .slice ac n cc], .bool false]) (by simp [results, Tryd.results28, go_sem, r0, r1, r2]) rfl ?_
    rw [HE.out]
    have hs := HE3.out.is _ (List.mem_of_getElem? (show _[1]? = some (rwS ac (unS us) lc hc9) from rfl))
    exact ⟨_, cc, by rw [HN.out], frw_wide (show FRw _ _ (unS us) lc hc9 from hs.1) hs.2.2.1 hs.2.2.2, by have := HN.out; show us.length ≤ cc; omega, HE3.out.bel⟩
  | false =>
    rw [hte] at HQ2
    cases hs : u.sum == sn with
    | false =>
      have hs' : (u.sum != sn) = true := by rw [bne, hs]; rfl
      have HE : Shut (RR = (⟨id, up, us⟩, false)) := ⟨by rw [HQ2.out, hs]; rfl⟩
      refine wp_region_grow (by kernel_rfl) (by kernel_rfl) ?_
      repeat (go_big_quiet_step (first | (go_at_call 19; with_reducible exact HSU.out _)))
      refine wpQuiet_nil ?_
      rintro _ ⟨X, rfl⟩
      have H := Shut.mk (HW.out.below X.bel)
      clear p2 p3 g2
      have z0 := (H.out.bx 0 rfl 0 _ rfl).1
      have z1 := (H.out.bx 0 rfl 1 _ rfl).1
      have z2 := (H.out.bx 0 rfl 2 _ rfl).1
      obtain ⟨r0, r0z⟩ := H.out.bx 2 rfl 0 _ rfl
      obtain ⟨r1, r1z⟩ := H.out.bx 2 rfl 1 _ rfl
      obtain ⟨r2, r2z⟩ := H.out.bx 2 rfl 2 _ rfl
      go_wp2_with fail
      have HE3 := Shut.mk ((((H.out.put 2 rfl 0 (.int .i64 id) (by simp)).put 2 rfl 1 (.bool up) (by simp)).put 2 rfl 2 (.slice ac n cc) (by simp)))
      refine bodyPost_ret (v := .tuple #[.agg #[.int .i64 id, .bool up, .slice ac n cc], .bool false]) (by simp [results, Tryd.results28, go_sem, r0, r1, r2]) rfl ?_
      rw [HE.out]
      have hs := HE3.out.is _ (List.mem_of_getElem? (show _[1]? = some (rwS ac (unS us) lc hc9) from rfl))
      exact ⟨_, cc, by rw [HN.out], frw_wide (show FRw _ _ (unS us) lc hc9 from hs.1) hs.2.2.1 hs.2.2.2, by have := HN.out; show us.length ≤ cc; omega, HE3.out.bel⟩
    | true =>
      have hs' : (u.sum != sn) = false := by rw [bne, hs]; rfl
      have HE : Shut (RR = (⟨id, up, us.set k ⟨u.group, u.index, turnAt u.text (at9.toNat % u.text.size), u.sum⟩⟩, true)) := ⟨by rw [HQ2.out, hs]; rfl⟩
      refine wp_region_grow (by kernel_rfl) (by kernel_rfl) ?_
      repeat (go_big_quiet_step (first | (go_at_call 19; with_reducible exact HSU.out _)))
      refine wpQuiet_nil ?_
      rintro _ ⟨X, rfl⟩
      have H := Shut.mk (HW.out.below X.bel)
      have y2 := g2 X
      have y3 := p2 X
      clear p2 p3 g2 HW HQ2
      obtain ⟨W4, hb4⟩ := X
      dsimp only at *
      have hpos : 0 < u.text.size := by
        rcases Nat.eq_zero_or_pos u.text.size with e | e
        · exfalso
          have : u.text = ⟨#[]⟩ := by
            cases u; rename_i t _; cases t; rename_i d; simp only [ByteArray.size] at e ⊢; congr 1; exact Array.eq_empty_of_size_eq_zero e
          rw [this] at hte
          rw [toList_none] at hte
          cases hte
        · exact e
      obtain ⟨W5, c5, hcv, hrow5, hb5⟩ := bytes_made W4 u.text
      obtain ⟨bb, hbb⟩ : ∃ q, q = W4.heap.size := ⟨_, rfl⟩
      have H5 := Shut.mk (H.out.add (s := byS bb u.text.data.toList) hb5 (by rw [hbb]; exact hrow5) (byS.loc _ _) (by rw [hbb]; exact Nat.le_refl _) (by rw [hbb]; exact hrow5.1))
      rw [← hbb] at hcv
      clear hrow5 hb5 hbb hb4 H
      go_upto_region 6 with fail
      obtain ⟨j, hj⟩ : ∃ j : Nat, at9.tmod (u.text.size : Int) = (j : Int) := by
        rw [Int.tmod_eq_emod_of_nonneg hat]
        exact Int.eq_ofNat_of_zero_le (Int.emod_nonneg _ (by omega))
      have hj2 : j < u.text.size ∧ j = at9.toNat % u.text.size := by
        rw [Int.tmod_eq_emod_of_nonneg hat] at hj
        have h1 := Int.emod_lt_of_pos at9 (show (0 : Int) < (u.text.size : Int) by omega)
        obtain ⟨q, rfl⟩ := Int.eq_ofNat_of_zero_le hat
        simp only [Int.toNat_natCast] at *
        omega
      have HJ := Shut.mk hj2
      have hne : ¬ ((u.text.size : Int) = 0) := by omega
      have hL : u.text.data.toList.length = u.text.size := rfl
      obtain ⟨x, hx⟩ : ∃ o : UInt8, u.text.data.toList.getD j 0 = o := ⟨_, rfl⟩
      have hci := (show BRow W5 bb u.text.data.toList from H5.out.at 0 rfl).2 j (by have := HJ.out.1; omega)
      rw [hx] at hci
      obtain ⟨hc1, hc2⟩ := hci
      have hxo := bits_one x
      have j0 : (0 : Int) ≤ (j : Int) := by omega
      have j1 : (j : Int) < (u.text.size : Int) := by have := HJ.out.1; omega
      have HX := Shut.mk hx
      have H6 := Shut.mk (H5.out.turn 0 rfl (W' := W5.setCell ⟨bb, j, none⟩ (.int .u8 ((x ^^^ 1).toNat : Int))) (Turned.of_grown (gb_set' W5 bb j _) (Nat.le_refl _) (Nat.lt_succ_self _)) ((show BRow W5 bb u.text.data.toList from H5.out.at 0 rfl).set j (x ^^^ 1) (by have := HJ.out.1; omega)) (byS.loc _ _))
      simp only [List.set_cons_zero] at H6
      have HT : Shut ((⟨(u.text.data.toList.set j (x ^^^ 1)).toArray⟩ : ByteArray) = turnAt u.text (at9.toNat % u.text.size)) := ⟨by unfold turnAt; rw [← HJ.out.2, HX.out]⟩
      clear hj2 hx H5
      generalize x ^^^ 1 = z at *
      go_region
      all_goals
        go_upto_region 7 with fail
        refine wp_shade (fun W => SL w W [byS bb (u.text.data.toList.set j z), bxS b6 [.int .i64 id, .bool up, .slice ac n cc], rwS ac (unS us) lc hc9, bxS (w.heap.size + 1) [.int .i64 0, .bool false, .slice none 0 0], bxS w.heap.size [.int .i64 id, .bool up, .slice (some ⟨b, off, none⟩) n cap]]) (by first | exact H6.out.drew | exact H6.out) ?_
        intro W7 hW
        have H := Shut.mk hW.tail
        have hcv2 := brow_string (cap := c5) (show BRow W7 bb (u.text.data.toList.set j z) from hW.at 0 rfl)
        rw [List.length_set, hL, HT.out] at hcv2
        clear hW H6 hcv hc1 hc2 hxo hj
        generalize turnAt u.text (at9.toNat % u.text.size) = T at *
        obtain ⟨gc, rfl, hlc, hhc, hwc⟩ : ∃ gc, ac = some ⟨gc, 0, none⟩ ∧ lc ≤ gc ∧ gc < hc9 ∧ WCells W7 gc (unS us) := by
          rcases (show FRw W7 ac (unS us) lc hc9 from H.out.at 1 rfl) with ⟨_, e⟩ | q
          · have := congrArg List.length e
            rw [unS_len] at this
            simp at this
            omega
          · exact q
        obtain ⟨s2, s2z⟩ := hwc.2 (k * 4 + 2) _ (flat_get unC_len us k hf 2 (by omega))
        have z2 := (H.out.bx 0 rfl 2 _ rfl).1
        have H8 := Shut.mk (H.out.turn 1 rfl (W' := W7.setCell ⟨gc, k * 4 + 2, none⟩ (.string T)) (Turned.of_grown (gb_set' W7 gc (k * 4 + 2) _) hlc hhc) (q := fun W => FRw W (some ⟨gc, 0, none⟩) (unS (us.set k ⟨u.group, u.index, T, u.sum⟩)) lc hc9) (by
          have q1 := hwc.set (k * 4 + 2) (.string T) (by rw [unS_len]; omega)
          rw [uns_text us k hf T, ← HU.out] at q1
          exact .inr ⟨gc, rfl, hlc, hhc, q1⟩) (rwS.loc _ _ _ _))
        simp only [List.set_cons_zero, List.set_cons_succ] at H8
        clear hwc
        go_upto_region 8 with fail
        refine wp_shade (fun W => SL w W [bxS b6 [.int .i64 id, .bool up, .slice (some ⟨gc, 0, none⟩) n cc], rwS (some ⟨gc, 0, none⟩) (unS (us.set k ⟨u.group, u.index, T, u.sum⟩)) lc hc9, bxS (w.heap.size + 1) [.int .i64 0, .bool false, .slice none 0 0], bxS w.heap.size [.int .i64 id, .bool up, .slice (some ⟨b, off, none⟩) n cap]]) H8.out ?_
        intro W8 hW
        clear H z2 s2 s2z H8
        have H := Shut.mk hW
        clear hW
        have z0 := (H.out.bx 0 rfl 0 _ rfl).1
        have z1 := (H.out.bx 0 rfl 1 _ rfl).1
        have z2 := (H.out.bx 0 rfl 2 _ rfl).1
        obtain ⟨r0, r0z⟩ := H.out.bx 2 rfl 0 _ rfl
        obtain ⟨r1, r1z⟩ := H.out.bx 2 rfl 1 _ rfl
        obtain ⟨r2, r2z⟩ := H.out.bx 2 rfl 2 _ rfl
        go_wp2_with fail
        have HE3 := Shut.mk ((((H.out.put 2 rfl 0 (.int .i64 id) (by simp)).put 2 rfl 1 (.bool up) (by simp)).put 2 rfl 2 (.slice (some ⟨gc, 0, none⟩) n cc) (by simp)))
        refine bodyPost_ret (v := .tuple #[.agg #[.int .i64 id, .bool up, .slice (some ⟨gc, 0, none⟩) n cc], .bool true]) (by simp [results, Tryd.results28, go_sem, r0, r1, r2]) rfl ?_
        rw [HE.out]
        have hs := HE3.out.is _ (List.mem_of_getElem? (show _[1]? = some (rwS (some ⟨gc, 0, none⟩) (unS (us.set k ⟨u.group, u.index, T, u.sum⟩)) lc hc9) from rfl))
        exact ⟨_, cc, by show _ = Ending.returned (.tuple #[.agg #[.int .i64 id, .bool up, .slice _ (us.set k _).length cc], .bool true]); rw [List.length_set, ← HN.out], frw_wide (show FRw _ _ (unS (us.set k ⟨u.group, u.index, T, u.sum⟩)) lc hc9 from hs.1) hs.2.2.1 hs.2.2.2, by have := HN.out; show (us.set k _).length ≤ cc; rw [List.length_set]; omega, HE3.out.bel⟩
end Go.Proofs.YtbanfccnmbmcfaaDoor
/- GrwE: A region that draws its order, behind its last free operation: one alone may come up at a time: a call, or a value of the memory as it is. -/
namespace Go.Proofs.YtbanfccnmbmcfaaDoor
set_option maxRecDepth 100000
open Go.RowKit
section
variable {P : Program} {Q : Exit → Act → World → Prop} {md : Region.Mode}
/-- One alone may come up: a call; the rest behind it. -/
theorem wpA_mid {L r : List Oper} {i : Nat} {oi : Oper} {f : FuncId} {args : Array Value} {n : Nat} {l : Array Bool} {a : Act} {w : World} (hr : Region.ready md L.toArray l = [i]) (hi : L.drop i = oi :: r) (hw : Region.wanted oi (yielded L.toArray a.tmps) = true) (hy : (execOp a.eval oi).run P w = .ok (.enter f args) w)
    (h : Calls P f args w fun e y => ∃ v, e = .returned v ∧ wpAny P md L.toArray Q n (l.setIfInBounds i true) (a.put oi.dst v) y) : wpAny P md L.toArray Q (n + 1) l a w := by
  refine ⟨fun h => (by rw [hr] at h; cases h), fun j hj => ?_⟩
  rw [hr, List.mem_singleton] at hj
  subst hj
  unfold wpOp
  rw [at_drop hi]
  dsimp only
  rw [if_pos hw]
  refine Or.inl ?_
  unfold Oper.wp
  rw [hy]
  refine h.mono ?_
  rintro e y ⟨v, rfl, hq⟩
  exact hq
/-- One alone may come up: a value; the rest behind it. -/
theorem wpA_here {L r : List Oper} {i : Nat} {oi : Oper} {v : Value} {n : Nat} {l : Array Bool} {a : Act} {w y : World} (hr : Region.ready md L.toArray l = [i]) (hi : L.drop i = oi :: r) (hw : Region.wanted oi (yielded L.toArray a.tmps) = true) (hy : (execOp a.eval oi).run P w = .ok (.value v) y)
    (h : wpAny P md L.toArray Q n (l.setIfInBounds i true) (a.put oi.dst v) y) : wpAny P md L.toArray Q (n + 1) l a w := by
  refine ⟨fun h => (by rw [hr] at h; cases h), fun j hj => ?_⟩
  rw [hr, List.mem_singleton] at hj
  subst hj
  unfold wpOp
  rw [at_drop hi]
  dsimp only
  rw [if_pos hw]
  refine Or.inl ?_
  unfold Oper.wp
  rw [hy]
  exact h
/-- Two may come up, each a store: in either order. -/
theorem wpA_two {L r r' : List Oper} {i j : Nat} {oi oj : Oper} {n : Nat} {l : Array Bool} {a : Act} {w y z : World} (hr : Region.ready md L.toArray l = [i, j]) (hi : L.drop i = oi :: r) (hj : L.drop j = oj :: r') (hw : Region.wanted oi (yielded L.toArray a.tmps) = true) (hw' : Region.wanted oj (yielded L.toArray a.tmps) = true)
    (hy : (execOp a.eval oi).run P w = .ok .skip y) (hz : (execOp a.eval oj).run P w = .ok .skip z)
    (h : wpAny P md L.toArray Q n (l.setIfInBounds i true) (a.put oi.dst undef) y) (h' : wpAny P md L.toArray Q n (l.setIfInBounds j true) (a.put oj.dst undef) z) : wpAny P md L.toArray Q (n + 1) l a w := by
  refine ⟨fun h => (by rw [hr] at h; cases h), fun k hk => ?_⟩
  rw [hr] at hk
  rcases List.mem_cons.1 hk with rfl | hk
  · unfold wpOp
    rw [at_drop hi]
    dsimp only
    rw [if_pos hw]
    refine Or.inl ?_
    unfold Oper.wp
    rw [hy]
    exact h
  · rw [List.mem_singleton] at hk
    subst hk
    unfold wpOp
    rw [at_drop hj]
    dsimp only
    rw [if_pos hw']
    refine Or.inl ?_
    unfold Oper.wp
    rw [hz]
    exact h'
end
end Go.Proofs.YtbanfccnmbmcfaaDoor
/- DrHo: The model's draw of a host (written by gen/mkdrho.py). -/
namespace Go.Proofs.YtbanfccnmbmcfaaDoor
set_option maxRecDepth 100000
open Go.RowKit BigFrame
attribute [local go_sem ↓] Go.wp_at_zero Go.wp_at_succ

theorem SD.drop2 {w0 W : World} {g B len cap : Nat} {a : Option Addr} {S : List Str} {s t r : Str} (h : SD w0 W g B a len cap (s :: t :: r :: S)) : SD w0 W g B a len cap (s :: t :: S) := by
  have h1 := List.pairwise_cons.1 h.sl.apart
  have h2 := List.pairwise_cons.1 h1.2
  have sub : ∀ x, x ∈ s :: t :: S → x ∈ s :: t :: r :: S := fun x hx => by simp only [List.mem_cons] at hx ⊢; rcases hx with h | h | h <;> simp [h]
  exact ⟨⟨h.sl.bel, fun x hx => h.sl.is x (sub x hx), List.pairwise_cons.2 ⟨fun x hx => h1.1 x (by rcases List.mem_cons.1 hx with rfl | hx; exact List.mem_cons_self ..; exact List.mem_cons_of_mem _ (List.mem_cons_of_mem _ hx)), List.pairwise_cons.2 ⟨fun x hx => h2.1 x (List.mem_cons_of_mem _ hx), (List.pairwise_cons.1 h2.2).2⟩⟩⟩, h.cur, fun x hx => h.far x (sub x hx), h.hg, h.hB⟩
theorem frw_none (W : World) (lo hi : Nat) : FRw W none (unS []) lo hi := .inl ⟨rfl, rfl⟩
/-- A host that was drawn. -/
def HoDrawn (w0 : World) (g B : Nat) (a : Option Addr) (len cap : Nat) (S : List Str) (e : Ending) (W' : World) : Prop := ∃ (H : HM) (b : Option Addr) (c lo hi : Nat), e = .returned (hov H b c) ∧ HGood H.id H.us 7 ∧ H.us.length ≤ c ∧ SD w0 W' g B a len cap (rwS b (unS H.us) lo hi :: S)
set_option maxRecDepth 100000 in
set_option maxHeartbeats 4000000 in
theorem l14Host_any (w0 w : World) (g B : Nat) (a : Option Addr) (len cap : Nat) (S : List Str) (h : SD w0 w g B a len cap S) :
    Calls Tryd.prog 29 #[.pointer (some ⟨g, 0, none⟩)] w fun e W' => HoDrawn w0 g B a len cap S e W' := by
  have HS := Shut.mk (h.new #[.int .i64 0, .bool false, .slice none 0 0] 26)
  clear h
  obtain ⟨rb, hrb⟩ : ∃ q, q = w.heap.size := ⟨_, rfl⟩
  go_enter Tryd.func29, Tryd.ntmps29
  go_upto_region 1 with fail
  rw [← hrb] at HS ⊢
  refine wp_shade (fun W => SD w0 W g B a len cap (bxS rb [.int .i64 0, .bool false, .slice none 0 0] :: S)) HS.out ?_
  intro W0 hW
  have HW := Shut.mk hW
  clear HS hW hrb
  go_upto_region 2 with (go_at_call 32; refine (HW.out.pick 7 (by omega)).mono ?_; rintro e w1 ⟨y, rfl, y0, y1, hd⟩; replace HW := Shut.mk (HW.out.draw hd); clear hd)
  have y2 : y ≤ 6 := by omega
  obtain ⟨id, hid⟩ : ∃ id, id = 1 + y := ⟨_, rfl⟩
  have HG0 : Shut (HGood id [] 0) := ⟨⟨by unfold hostOk unitsOk inI; simp; omega, Nat.le_refl _⟩⟩
  have HS1 := Shut.mk ((HW.out.add (s := rwS none (unS []) w1.heap.size w1.heap.size) (Below.refl _ _) (frw_none _ _ _) (rwS.loc _ _ _ _) (Nat.le_refl _) (Nat.le_refl _)).new #[.int .i64 (1 + y), .bool true, .slice none 0 0] 26)
  obtain ⟨hb, hhb⟩ : ∃ q, q = w1.heap.size := ⟨_, rfl⟩
  rw [← hhb] at HS1
  refine wp_shade (fun W => SD w0 W g B a len cap (bxS hb [.int .i64 id, .bool true, .slice none 0 0] :: rwS none (unS []) hb hb :: bxS rb [.int .i64 0, .bool false, .slice none 0 0] :: S)) (by rw [hid]; exact HS1.out) ?_
  intro W2 hW
  rw [← hhb]
  have H2 := Shut.mk hW
  clear hW HS1 HW hhb hid y0 y1 y2
  go_upto_region 3 with fail
  go_loopw [4] (fun i9 wr => ∃ (k n : Nat) (us : List UnM) (v : Option Addr) (c lo hi : Nat), i9 = .int .i64 k ∧ k ≤ 7 ∧ Shut (n = us.length) ∧ Shut (HGood id us k) ∧ Shut (SD w0 wr g B a len cap (bxS hb [.int .i64 id, .bool true, .slice v n c] :: rwS v (unS us) lo hi :: bxS rb [.int .i64 0, .bool false, .slice none 0 0] :: S)) ∧ n ≤ c) (fun i9 _ => 7 - (intOf i9).toNat)
  case atStart => exact ⟨0, 0, [], none, 0, hb, hb, rfl, by omega, ⟨rfl⟩, HG0, H2, Nat.le_refl _⟩
  case round =>
    clear H2 HG0
    obtain ⟨k, n, us, v, c, lo, hi, rfl, hk, HN, HGQ, HW, hnc⟩ := hrel
    go_upto_region 5 with (go_at_call 32; refine (HW.out.pick 7 (by omega)).mono ?_; rintro e w3 ⟨p, rfl, pp0, pp1, hd⟩; replace HW := Shut.mk (HW.out.draw hd); clear hd; rcases Int.lt_or_le (k : Int) p with hlt | hlt)
    · have k6 : k ≤ 5 := by omega
      have HX : Shut (SD w0 w3.drew g B a len cap (bxS hb [.int .i64 id, .bool true, .slice v n c] :: rwS v (unS us) lo hi :: bxS rb [.int .i64 0, .bool false, .slice none 0 0] :: S)) := ⟨HW.out.below (Below.drew (Below.refl _ _))⟩
      have HLE : Shut (∀ x, Dr g B a len cap w3.drew x → x.cell? ⟨hb, 0, none⟩ = some (.int .i64 id) ∧ x.cell? ⟨hb, 1, none⟩ = some (.bool true) ∧ x.cell? ⟨hb, 2, none⟩ = some (.slice v n c)) := ⟨fun x hx => ⟨((HX.out.draw hx).bx 0 rfl 0 _ rfl).1, ((HX.out.draw hx).bx 0 rfl 1 _ rfl).1, ((HX.out.draw hx).bx 0 rfl 2 _ rfl).1⟩⟩
      refine wp_region_E (Dr g B a len cap) (Dr.pre g B a len cap) (fun j => decide (13 ≤ j)) (by kernel_rfl) ?_
      refine wpE_val (Dr.pre g B a len cap) (i := 0) (v := ?va0) rfl (by kernel_rfl) (by kernel_rfl) (by kernel_rfl) (by kernel_rfl) (fun _ _ _ h => h) (by rfl) ?hya0 ?resta0
      case hya0 => (intro x hx; obtain ⟨d0, d1, d2⟩ := HLE.out x hx; go_simp; try with_reducible rfl)
      try simp only [Act.put, List.setIfInBounds_toArray, List.set_cons_zero, List.set_cons_succ]
      refine wpE_val (Dr.pre g B a len cap) (i := 1) (v := ?va1) rfl (by kernel_rfl) (by kernel_rfl) (by kernel_rfl) (by kernel_rfl) (fun _ _ _ h => h) (by rfl) ?hya1 ?resta1
      case hya1 => (intro x hx; obtain ⟨d0, d1, d2⟩ := HLE.out x hx; go_simp; try with_reducible rfl)
      try simp only [Act.put, List.setIfInBounds_toArray, List.set_cons_zero, List.set_cons_succ]
      refine wpE_val (Dr.pre g B a len cap) (i := 4) (v := ?va4) rfl (by kernel_rfl) (by kernel_rfl) (by kernel_rfl) (by kernel_rfl) (fun _ _ _ h => h) (by rfl) ?hya4 ?resta4
      case hya4 => (intro x hx; obtain ⟨d0, d1, d2⟩ := HLE.out x hx; go_simp; try with_reducible rfl)
      try simp only [Act.put, List.setIfInBounds_toArray, List.set_cons_zero, List.set_cons_succ]
      refine wpE_val (Dr.pre g B a len cap) (i := 6) (v := ?va6) rfl (by kernel_rfl) (by kernel_rfl) (by kernel_rfl) (by kernel_rfl) (fun _ _ _ h => h) (by rfl) ?hya6 ?resta6
      case hya6 => (intro x hx; obtain ⟨d0, d1, d2⟩ := HLE.out x hx; go_simp; try with_reducible rfl)
      try simp only [Act.put, List.setIfInBounds_toArray, List.set_cons_zero, List.set_cons_succ]
      refine wpE_val (Dr.pre g B a len cap) (i := 7) (v := ?va7) rfl (by kernel_rfl) (by kernel_rfl) (by kernel_rfl) (by kernel_rfl) (fun _ _ _ h => h) (by rfl) ?hya7 ?resta7
      case hya7 => (intro x hx; obtain ⟨d0, d1, d2⟩ := HLE.out x hx; go_simp; try with_reducible rfl)
      try simp only [Act.put, List.setIfInBounds_toArray, List.set_cons_zero, List.set_cons_succ]
      refine wpE_onecall (f := 32) (args := #[.pointer (some ⟨g, 0, none⟩), .int .i64 3]) (i := 2) (by kernel_rfl) rfl (by rfl) (fun x hx => by go_simp) (fun x hx => ((HX.out.draw hx).pick 3 (by omega)).mono ?_)
      rintro e wy ⟨y, rfl, y0, y1, hd⟩
      refine ⟨_, rfl, hd, ?_⟩
      have y2 : y ≤ 2 := by omega
      replace HX : Shut (SD w0 wy g B a len cap (bxS hb [.int .i64 id, .bool true, .slice v n c] :: rwS v (unS us) lo hi :: bxS rb [.int .i64 0, .bool false, .slice none 0 0] :: S)) := ⟨(HX.out.draw hx).draw hd⟩
      clear hd hx HLE
      have HLE : Shut (∀ x, Dr g B a len cap wy x → x.cell? ⟨hb, 0, none⟩ = some (.int .i64 id) ∧ x.cell? ⟨hb, 1, none⟩ = some (.bool true) ∧ x.cell? ⟨hb, 2, none⟩ = some (.slice v n c)) := ⟨fun x hx => ⟨((HX.out.draw hx).bx 0 rfl 0 _ rfl).1, ((HX.out.draw hx).bx 0 rfl 1 _ rfl).1, ((HX.out.draw hx).bx 0 rfl 2 _ rfl).1⟩⟩
      clear y1
      try simp only [Act.put, List.setIfInBounds_toArray, List.set_cons_zero, List.set_cons_succ]
      have ew : IntKind.i64.wrap (1 + y) = 1 + y := IntWalk.i64_in _ ⟨by omega, by omega⟩
      refine wpE_val (Dr.pre g B a len cap) (i := 3) (v := ?vb3) rfl (by kernel_rfl) (by kernel_rfl) (by kernel_rfl) (by kernel_rfl) (fun _ _ _ h => h) (by rfl) ?hyb3 ?restb3
      case hyb3 => (intro x hx; obtain ⟨d0, d1, d2⟩ := HLE.out x hx; go_simp; try with_reducible rfl)
      try simp only [Act.put, List.setIfInBounds_toArray, List.set_cons_zero, List.set_cons_succ]
      clear ew
      refine wpE_onecall (f := 32) (args := #[.pointer (some ⟨g, 0, none⟩), .int .i64 4]) (i := 5) (by kernel_rfl) rfl (by rfl) (fun x hx => by go_simp) (fun x hx => ((HX.out.draw hx).pick 4 (by omega)).mono ?_)
      rintro e wz ⟨z, rfl, z0, z1, hd⟩
      refine ⟨_, rfl, hd, ?_⟩
      have z2 : z ≤ 3 := by omega
      replace HX : Shut (SD w0 wz g B a len cap (bxS hb [.int .i64 id, .bool true, .slice v n c] :: rwS v (unS us) lo hi :: bxS rb [.int .i64 0, .bool false, .slice none 0 0] :: S)) := ⟨(HX.out.draw hx).draw hd⟩
      clear hd hx HLE
      have HLE : Shut (∀ x, Dr g B a len cap wz x → x.cell? ⟨hb, 0, none⟩ = some (.int .i64 id) ∧ x.cell? ⟨hb, 1, none⟩ = some (.bool true) ∧ x.cell? ⟨hb, 2, none⟩ = some (.slice v n c)) := ⟨fun x hx => ⟨((HX.out.draw hx).bx 0 rfl 0 _ rfl).1, ((HX.out.draw hx).bx 0 rfl 1 _ rfl).1, ((HX.out.draw hx).bx 0 rfl 2 _ rfl).1⟩⟩
      clear z1
      try simp only [Act.put, List.setIfInBounds_toArray, List.set_cons_zero, List.set_cons_succ]
      refine wpE_onecall (f := 32) (args := #[.pointer (some ⟨g, 0, none⟩), .int .i64 5]) (i := 8) (by kernel_rfl) rfl (by rfl) (fun x hx => by go_simp) (fun x hx => ((HX.out.draw hx).pick 5 (by omega)).mono ?_)
      rintro e wm ⟨m, rfl, m0, m1, hd⟩
      refine ⟨_, rfl, hd, ?_⟩
      have m2 : m ≤ 4 := by omega
      replace HX : Shut (SD w0 wm g B a len cap (bxS hb [.int .i64 id, .bool true, .slice v n c] :: rwS v (unS us) lo hi :: bxS rb [.int .i64 0, .bool false, .slice none 0 0] :: S)) := ⟨(HX.out.draw hx).draw hd⟩
      clear hd hx HLE
      have HLE : Shut (∀ x, Dr g B a len cap wm x → x.cell? ⟨hb, 0, none⟩ = some (.int .i64 id) ∧ x.cell? ⟨hb, 1, none⟩ = some (.bool true) ∧ x.cell? ⟨hb, 2, none⟩ = some (.slice v n c)) := ⟨fun x hx => ⟨((HX.out.draw hx).bx 0 rfl 0 _ rfl).1, ((HX.out.draw hx).bx 0 rfl 1 _ rfl).1, ((HX.out.draw hx).bx 0 rfl 2 _ rfl).1⟩⟩
      clear m1
      try simp only [Act.put, List.setIfInBounds_toArray, List.set_cons_zero, List.set_cons_succ]
      obtain ⟨mm, rfl⟩ := Int.eq_ofNat_of_zero_le m0
      have mm2 : mm ≤ 4 := by omega
      refine wpE_onecall (f := 55) (args := #[.pointer (some ⟨g, 0, none⟩), .int .i64 mm]) (i := 9) (by kernel_rfl) rfl (by rfl) (fun x hx => by go_simp) (fun x hx => ((HX.out.draw hx).text mm (by omega)).mono ?_)
      rintro e wt ⟨t, rfl, ht, hd⟩
      refine ⟨_, rfl, hd, ?_⟩
      replace HX : Shut (SD w0 wt g B a len cap (bxS hb [.int .i64 id, .bool true, .slice v n c] :: rwS v (unS us) lo hi :: bxS rb [.int .i64 0, .bool false, .slice none 0 0] :: S)) := ⟨(HX.out.draw hx).draw hd⟩
      clear hd hx HLE
      have HLE : Shut (∀ x, Dr g B a len cap wt x → x.cell? ⟨hb, 0, none⟩ = some (.int .i64 id) ∧ x.cell? ⟨hb, 1, none⟩ = some (.bool true) ∧ x.cell? ⟨hb, 2, none⟩ = some (.slice v n c)) := ⟨fun x hx => ⟨((HX.out.draw hx).bx 0 rfl 0 _ rfl).1, ((HX.out.draw hx).bx 0 rfl 1 _ rfl).1, ((HX.out.draw hx).bx 0 rfl 2 _ rfl).1⟩⟩
      try simp only [Act.put, List.setIfInBounds_toArray, List.set_cons_zero, List.set_cons_succ]
      refine wpE_val (Dr.pre g B a len cap) (i := 10) (v := ?vc10) rfl (by kernel_rfl) (by kernel_rfl) (by kernel_rfl) (by kernel_rfl) (fun _ _ _ h => h) (by rfl) ?hyc10 ?restc10
      case hyc10 => (intro x hx; obtain ⟨d0, d1, d2⟩ := HLE.out x hx; go_simp; try with_reducible rfl)
      try simp only [Act.put, List.setIfInBounds_toArray, List.set_cons_zero, List.set_cons_succ]
      obtain ⟨us8, he8, hg8⟩ := put_good HGQ.out ⟨1 + y, z, t, 0⟩
      have HPU := Shut.mk (fun (x : World) (h : UnRow x v us) => specPutUnit ⟨id, true, us⟩ v c ⟨1 + y, z, t, 0⟩ x h (by have := HGQ.out.2; show us.length ≤ 1048576; omega) (HGQ.out.fit (by omega)).1 ⟨by show t.size ≤ _; omega, ⟨by show _ ≤ 1 + y; omega, by show 1 + y ≤ _; omega⟩, ⟨by show _ ≤ z; omega, by show z ≤ _; omega⟩, ⟨by show _ ≤ (0 : Int); omega, by show (0 : Int) ≤ _; omega⟩⟩ (by show t.size ≤ _; omega))
      have HG8 := Shut.mk hg8
      unfold HbPost at HPU
      generalize (putX ⟨id, true, us⟩ ⟨1 + y, z, t, 0⟩).2 = fl8 at HPU
      rw [he8] at HPU
      dsimp only [hov, unv] at HPU
      rw [← HN.out] at HPU
      clear he8 hg8
      refine wpE_onecall (f := 22) (args := #[.agg #[.int .i64 id, .bool true, .slice v n c], .agg #[.int .i64 (1 + y), .int .i64 z, .string t, .int .i64 0]]) (i := 11) (by kernel_rfl) rfl (by rfl) (fun x hx => by go_simp) (fun x hx => (HPU.out x (show FRw _ _ _ _ _ from (HX.out.draw hx).sl.at 1 rfl).crow).mono ?_)
      rintro e y8 ⟨v8, c8, rfl, hF, hc8, hb8⟩
      refine ⟨_, rfl, ⟨gb_below hb8, fun q => q.below hb8⟩, ?_⟩
      have HY := Shut.mk ((HX.out.draw hx).add (s := rwS v8 (unS us8) _ _) hb8 hF (rwS.loc _ _ _ _) (Nat.le_refl _) (Nat.le_refl _))
      generalize x.heap.size = lo8 at HY
      generalize hh8 : y8.heap.size = hi8 at HY
      clear hh8 hF hb8 hx HLE
      try simp only [Act.put, List.setIfInBounds_toArray, List.set_cons_zero, List.set_cons_succ]
      refine wpE_val (Dr.pre g B a len cap) (i := 12) (v := ?vz1215) rfl (by kernel_rfl) (by kernel_rfl) (by kernel_rfl) (by kernel_rfl) (fun _ _ _ h => h) (by rfl) ?hyz1215 ?restz1215
      case hyz1215 => (intro x hx; go_simp; try with_reducible rfl)
      try simp only [Act.put, List.setIfInBounds_toArray, List.set_cons_zero, List.set_cons_succ]
      refine wpE_pure (Dr.pre g B a len cap) (i := 13) (v := ?vz1315) rfl (by kernel_rfl) (by kernel_rfl) (by kernel_rfl) (by kernel_rfl) (fun _ _ _ h => h) (by rfl) ?hyz1315 ?restz1315
      case hyz1315 => (intro x; go_simp; try with_reducible rfl)
      try simp only [Act.put, List.setIfInBounds_toArray, List.set_cons_zero, List.set_cons_succ]
      refine wpE_pure (Dr.pre g B a len cap) (i := 14) (v := ?vz1415) rfl (by kernel_rfl) (by kernel_rfl) (by kernel_rfl) (by kernel_rfl) (fun _ _ _ h => h) (by rfl) ?hyz1415 ?restz1415
      case hyz1415 => (intro x; go_simp; try with_reducible rfl)
      try simp only [Act.put, List.setIfInBounds_toArray, List.set_cons_zero, List.set_cons_succ]
      refine wpE_tail (by kernel_rfl) ?_
      intro x5 hx5
      have HY3 := Shut.mk (HY.out.draw hx5)
      obtain ⟨q0, qf0⟩ := HY3.out.bx 1 rfl 0 _ rfl
      obtain ⟨q1, qf1⟩ := HY3.out.bx 1 rfl 1 _ rfl
      obtain ⟨q2, qf2⟩ := HY3.out.bx 1 rfl 2 _ rfl
      refine wpA_step (y := ((x5.setCell ⟨hb, 0, none⟩ (.int .i64 id)).setCell ⟨hb, 1, none⟩ (.bool true)).setCell ⟨hb, 2, none⟩ (.slice v8 us8.length c8)) (i := 15) (by kernel_rfl) rfl (by rfl) (by go_simp) ?_
      have HZ := Shut.mk ((((HY3.out.put 1 rfl 0 (.int .i64 id) (by simp)).put 1 rfl 1 (.bool true) (by simp)).put 1 rfl 2 (.slice v8 us8.length c8) (by simp)).swap.drop2)
      simp only [List.set_cons_zero, List.set_cons_succ] at HZ
      clear q0 qf0 q1 qf1 q2 qf2 hx5 HY HY3 HX
      simp only [Act.put]
      refine wpA_done (by kernel_rfl) ?_ _
      go_wp2_with fail
      go_roundw
      case rel => exact ⟨k + 1, us8.length, us8, v8, c8, lo8, hi8, by go_num, by omega, ⟨rfl⟩, HG8, HZ, hc8⟩
      case measure => simp [intOf]; omega
    · have HGQ7 : Shut (HGood id us 7) := ⟨⟨HGQ.out.1, by have := HGQ.out.2; omega⟩⟩
      clear HGQ
      have HGQ := HGQ7
      clear HGQ7 hlt pp0 pp1
      refine (HW.out.once 3 (by omega)).mono ?_
      rintro e w4 ⟨fl, rfl, hd⟩
      replace HW := Shut.mk (HW.out.draw hd)
      clear hd
      cases fl with
      | false =>
        go_upto_region 8 with fail
        go_upto_region 9 with (go_at_call 56; refine (HW.out.once 6 (by omega)).mono ?_; rintro e w6 ⟨up, rfl, hd⟩; replace HW := Shut.mk (HW.out.draw hd); clear hd; obtain ⟨o1, o1z⟩ := HW.out.bx 0 rfl 1 _ rfl)
        have HP := Shut.mk (HW.out.put 0 rfl 1 (.bool (!up)) (by simp))
        simp only [List.set_cons_zero, List.set_cons_succ] at HP
        generalize (!up) = up9 at HP ⊢
        refine wp_shade (fun W' => SD w0 W' g B a len cap (bxS hb [.int .i64 id, .bool up9, .slice v n c] :: rwS v (unS us) lo hi :: bxS rb [.int .i64 0, .bool false, .slice none 0 0] :: S)) HP.out ?_
        intro W7 h7
        have H7 := Shut.mk h7
        clear h7 HP o1 o1z HW
        have z0 := (H7.out.bx 0 rfl 0 _ rfl).1
        have z1 := (H7.out.bx 0 rfl 1 _ rfl).1
        have z2 := (H7.out.bx 0 rfl 2 _ rfl).1
        obtain ⟨r0, r0z⟩ := H7.out.bx 2 rfl 0 _ rfl
        obtain ⟨r1, r1z⟩ := H7.out.bx 2 rfl 1 _ rfl
        obtain ⟨r2, r2z⟩ := H7.out.bx 2 rfl 2 _ rfl
        go_wp2_with fail
        have HE := Shut.mk (((((H7.out.put 2 rfl 0 (.int .i64 id) (by simp)).put 2 rfl 1 (.bool up9) (by simp)).put 2 rfl 2 (.slice v n c) (by simp)).tail).drop1)
        refine bodyPost_ret (v := .agg #[.int .i64 id, .bool up9, .slice v n c]) (by simp [results, Tryd.results29, go_sem, r0, r1, r2]) rfl ?_
        exact ⟨⟨id, up9, us⟩, v, c, lo, hi, by rw [HN.out], HGQ.out, by have := HN.out; show us.length ≤ c; omega, HE.out⟩
      | true =>
        go_upto_region 7 with fail
        have HX : Shut (SD w0 w4.drew g B a len cap (bxS hb [.int .i64 id, .bool true, .slice v n c] :: rwS v (unS us) lo hi :: bxS rb [.int .i64 0, .bool false, .slice none 0 0] :: S)) := ⟨HW.out.below (Below.drew (Below.refl _ _))⟩
        have HLE : Shut (∀ x, Dr g B a len cap w4.drew x → x.cell? ⟨hb, 0, none⟩ = some (.int .i64 id) ∧ x.cell? ⟨hb, 1, none⟩ = some (.bool true) ∧ x.cell? ⟨hb, 2, none⟩ = some (.slice v n c)) := ⟨fun x hx => ⟨((HX.out.draw hx).bx 0 rfl 0 _ rfl).1, ((HX.out.draw hx).bx 0 rfl 1 _ rfl).1, ((HX.out.draw hx).bx 0 rfl 2 _ rfl).1⟩⟩
        refine wp_region_E (Dr g B a len cap) (Dr.pre g B a len cap) (fun j => decide (10 ≤ j)) (by kernel_rfl) ?_
        refine wpE_val (Dr.pre g B a len cap) (i := 0) (v := ?vs0) rfl (by kernel_rfl) (by kernel_rfl) (by kernel_rfl) (by kernel_rfl) (fun _ _ _ h => h) (by rfl) ?hys0 ?rests0
        case hys0 => (intro x hx; obtain ⟨d0, d1, d2⟩ := HLE.out x hx; go_simp; try with_reducible rfl)
        try simp only [Act.put, List.setIfInBounds_toArray, List.set_cons_zero, List.set_cons_succ]
        refine wpE_val (Dr.pre g B a len cap) (i := 1) (v := ?vs1) rfl (by kernel_rfl) (by kernel_rfl) (by kernel_rfl) (by kernel_rfl) (fun _ _ _ h => h) (by rfl) ?hys1 ?rests1
        case hys1 => (intro x hx; obtain ⟨d0, d1, d2⟩ := HLE.out x hx; go_simp; try with_reducible rfl)
        try simp only [Act.put, List.setIfInBounds_toArray, List.set_cons_zero, List.set_cons_succ]
        refine wpE_val (Dr.pre g B a len cap) (i := 4) (v := ?vs4) rfl (by kernel_rfl) (by kernel_rfl) (by kernel_rfl) (by kernel_rfl) (fun _ _ _ h => h) (by rfl) ?hys4 ?rests4
        case hys4 => (intro x hx; obtain ⟨d0, d1, d2⟩ := HLE.out x hx; go_simp; try with_reducible rfl)
        try simp only [Act.put, List.setIfInBounds_toArray, List.set_cons_zero, List.set_cons_succ]
        refine wpE_val (Dr.pre g B a len cap) (i := 6) (v := ?vs6) rfl (by kernel_rfl) (by kernel_rfl) (by kernel_rfl) (by kernel_rfl) (fun _ _ _ h => h) (by rfl) ?hys6 ?rests6
        case hys6 => (intro x hx; obtain ⟨d0, d1, d2⟩ := HLE.out x hx; go_simp; try with_reducible rfl)
        try simp only [Act.put, List.setIfInBounds_toArray, List.set_cons_zero, List.set_cons_succ]
        refine wpE_onecall (f := 32) (args := #[.pointer (some ⟨g, 0, none⟩), .int .i64 3]) (i := 2) (by kernel_rfl) rfl (by rfl) (fun x hx => by go_simp) (fun x hx => ((HX.out.draw hx).pick 3 (by omega)).mono ?_)
        rintro e wy ⟨y, rfl, y0, y1, hd⟩
        refine ⟨_, rfl, hd, ?_⟩
        have y2 : y ≤ 2 := by omega
        replace HX : Shut (SD w0 wy g B a len cap (bxS hb [.int .i64 id, .bool true, .slice v n c] :: rwS v (unS us) lo hi :: bxS rb [.int .i64 0, .bool false, .slice none 0 0] :: S)) := ⟨(HX.out.draw hx).draw hd⟩
        clear hd hx HLE
        have HLE : Shut (∀ x, Dr g B a len cap wy x → x.cell? ⟨hb, 0, none⟩ = some (.int .i64 id) ∧ x.cell? ⟨hb, 1, none⟩ = some (.bool true) ∧ x.cell? ⟨hb, 2, none⟩ = some (.slice v n c)) := ⟨fun x hx => ⟨((HX.out.draw hx).bx 0 rfl 0 _ rfl).1, ((HX.out.draw hx).bx 0 rfl 1 _ rfl).1, ((HX.out.draw hx).bx 0 rfl 2 _ rfl).1⟩⟩
        clear y1
        try simp only [Act.put, List.setIfInBounds_toArray, List.set_cons_zero, List.set_cons_succ]
        have ew : IntKind.i64.wrap (1 + y) = 1 + y := IntWalk.i64_in _ ⟨by omega, by omega⟩
        refine wpE_val (Dr.pre g B a len cap) (i := 3) (v := ?vt3) rfl (by kernel_rfl) (by kernel_rfl) (by kernel_rfl) (by kernel_rfl) (fun _ _ _ h => h) (by rfl) ?hyt3 ?restt3
        case hyt3 => (intro x hx; obtain ⟨d0, d1, d2⟩ := HLE.out x hx; go_simp; try with_reducible rfl)
        try simp only [Act.put, List.setIfInBounds_toArray, List.set_cons_zero, List.set_cons_succ]
        clear ew
        refine wpE_onecall (f := 32) (args := #[.pointer (some ⟨g, 0, none⟩), .int .i64 4]) (i := 5) (by kernel_rfl) rfl (by rfl) (fun x hx => by go_simp) (fun x hx => ((HX.out.draw hx).pick 4 (by omega)).mono ?_)
        rintro e wz ⟨z, rfl, z0, z1, hd⟩
        refine ⟨_, rfl, hd, ?_⟩
        have z2 : z ≤ 3 := by omega
        replace HX : Shut (SD w0 wz g B a len cap (bxS hb [.int .i64 id, .bool true, .slice v n c] :: rwS v (unS us) lo hi :: bxS rb [.int .i64 0, .bool false, .slice none 0 0] :: S)) := ⟨(HX.out.draw hx).draw hd⟩
        clear hd hx HLE
        have HLE : Shut (∀ x, Dr g B a len cap wz x → x.cell? ⟨hb, 0, none⟩ = some (.int .i64 id) ∧ x.cell? ⟨hb, 1, none⟩ = some (.bool true) ∧ x.cell? ⟨hb, 2, none⟩ = some (.slice v n c)) := ⟨fun x hx => ⟨((HX.out.draw hx).bx 0 rfl 0 _ rfl).1, ((HX.out.draw hx).bx 0 rfl 1 _ rfl).1, ((HX.out.draw hx).bx 0 rfl 2 _ rfl).1⟩⟩
        clear z1
        try simp only [Act.put, List.setIfInBounds_toArray, List.set_cons_zero, List.set_cons_succ]
        refine wpE_onecall (f := 32) (args := #[.pointer (some ⟨g, 0, none⟩), .int .i64 9]) (i := 7) (by kernel_rfl) rfl (by rfl) (fun x hx => by go_simp) (fun x hx => ((HX.out.draw hx).pick 9 (by omega)).mono ?_)
        rintro e wq ⟨q, rfl, q0, q1, hd⟩
        refine ⟨_, rfl, hd, ?_⟩
        have q2 : q ≤ 8 := by omega
        replace HX : Shut (SD w0 wq g B a len cap (bxS hb [.int .i64 id, .bool true, .slice v n c] :: rwS v (unS us) lo hi :: bxS rb [.int .i64 0, .bool false, .slice none 0 0] :: S)) := ⟨(HX.out.draw hx).draw hd⟩
        clear hd hx HLE
        have HLE : Shut (∀ x, Dr g B a len cap wq x → x.cell? ⟨hb, 0, none⟩ = some (.int .i64 id) ∧ x.cell? ⟨hb, 1, none⟩ = some (.bool true) ∧ x.cell? ⟨hb, 2, none⟩ = some (.slice v n c)) := ⟨fun x hx => ⟨((HX.out.draw hx).bx 0 rfl 0 _ rfl).1, ((HX.out.draw hx).bx 0 rfl 1 _ rfl).1, ((HX.out.draw hx).bx 0 rfl 2 _ rfl).1⟩⟩
        clear q1
        try simp only [Act.put, List.setIfInBounds_toArray, List.set_cons_zero, List.set_cons_succ]
        obtain ⟨us8, he8, hg8⟩ := spoil_good HGQ.out (1 + y) z q
        have HPU := Shut.mk (fun (x : World) (h : UnRow x v us) => specSpoil ⟨id, true, us⟩ v c (1 + y) z q x h (by have := HGQ.out.2; show us.length ≤ 1048576; omega) (by have h1 := (HGQ.out.fit (by omega)).2.1; have h2 := HGQ.out.2; show unSum us ≤ 1048576; omega) (by omega))
        have HG8 := Shut.mk hg8
        unfold HbPost at HPU
        generalize (spoilX ⟨id, true, us⟩ (1 + y) z q).2 = fl8 at HPU
        rw [he8] at HPU
        dsimp only [hov] at HPU
        rw [← HN.out] at HPU
        clear he8 hg8
        refine wpE_onecall (f := 28) (args := #[.agg #[.int .i64 id, .bool true, .slice v n c], .int .i64 (1 + y), .int .i64 z, .int .i64 q]) (i := 8) (by kernel_rfl) rfl (by rfl) (fun x hx => by go_simp) (fun x hx => (HPU.out x (show FRw _ _ _ _ _ from (HX.out.draw hx).sl.at 1 rfl).crow).mono ?_)
        rintro e y8 ⟨v8, c8, rfl, hF, hc8, hb8⟩
        refine ⟨_, rfl, ⟨gb_below hb8, fun q => q.below hb8⟩, ?_⟩
        have HY := Shut.mk ((HX.out.draw hx).add (s := rwS v8 (unS us8) _ _) hb8 hF (rwS.loc _ _ _ _) (Nat.le_refl _) (Nat.le_refl _))
        generalize x.heap.size = lo8 at HY
        generalize hh8 : y8.heap.size = hi8 at HY
        clear hh8 hF hb8 hx HLE
        try simp only [Act.put, List.setIfInBounds_toArray, List.set_cons_zero, List.set_cons_succ]
        refine wpE_val (Dr.pre g B a len cap) (i := 9) (v := ?vz912) rfl (by kernel_rfl) (by kernel_rfl) (by kernel_rfl) (by kernel_rfl) (fun _ _ _ h => h) (by rfl) ?hyz912 ?restz912
        case hyz912 => (intro x hx; go_simp; try with_reducible rfl)
        try simp only [Act.put, List.setIfInBounds_toArray, List.set_cons_zero, List.set_cons_succ]
        refine wpE_pure (Dr.pre g B a len cap) (i := 10) (v := ?vz1012) rfl (by kernel_rfl) (by kernel_rfl) (by kernel_rfl) (by kernel_rfl) (fun _ _ _ h => h) (by rfl) ?hyz1012 ?restz1012
        case hyz1012 => (intro x; go_simp; try with_reducible rfl)
        try simp only [Act.put, List.setIfInBounds_toArray, List.set_cons_zero, List.set_cons_succ]
        refine wpE_pure (Dr.pre g B a len cap) (i := 11) (v := ?vz1112) rfl (by kernel_rfl) (by kernel_rfl) (by kernel_rfl) (by kernel_rfl) (fun _ _ _ h => h) (by rfl) ?hyz1112 ?restz1112
        case hyz1112 => (intro x; go_simp; try with_reducible rfl)
        try simp only [Act.put, List.setIfInBounds_toArray, List.set_cons_zero, List.set_cons_succ]
        refine wpE_tail (by kernel_rfl) ?_
        intro x5 hx5
        have HY3 := Shut.mk (HY.out.draw hx5)
        obtain ⟨q0, qf0⟩ := HY3.out.bx 1 rfl 0 _ rfl
        obtain ⟨q1, qf1⟩ := HY3.out.bx 1 rfl 1 _ rfl
        obtain ⟨q2, qf2⟩ := HY3.out.bx 1 rfl 2 _ rfl
        refine wpA_step (y := ((x5.setCell ⟨hb, 0, none⟩ (.int .i64 id)).setCell ⟨hb, 1, none⟩ (.bool true)).setCell ⟨hb, 2, none⟩ (.slice v8 us8.length c8)) (i := 12) (by kernel_rfl) rfl (by rfl) (by go_simp) ?_
        have HZ := Shut.mk ((((HY3.out.put 1 rfl 0 (.int .i64 id) (by simp)).put 1 rfl 1 (.bool true) (by simp)).put 1 rfl 2 (.slice v8 us8.length c8) (by simp)).swap.drop2)
        simp only [List.set_cons_zero, List.set_cons_succ] at HZ
        clear q0 qf0 q1 qf1 q2 qf2 hx5 HY HY3 HX
        simp only [Act.put]
        refine wpA_done (by kernel_rfl) ?_ _
        go_upto_region 8 with fail
        refine wp_shade (fun W => SD w0 W g B a len cap (bxS hb [.int .i64 id, .bool true, .slice v8 us8.length c8] :: rwS v8 (unS us8) lo8 hi8 :: bxS rb [.int .i64 0, .bool false, .slice none 0 0] :: S)) HZ.out ?_
        intro W9 hW
        have HW9 := Shut.mk hW
        obtain ⟨n8, hn8⟩ : ∃ n8, n8 = us8.length := ⟨_, rfl⟩
        rw [← hn8] at HW9 hc8
        clear hW HZ HW HN HGQ
        have HN := Shut.mk hn8
        have HGQ := HG8
        have HW := HW9
        have hnc := hc8
        rw [← hn8]
        clear hn8 HG8 HW9 hc8
        go_upto_region 9 with (go_at_call 56; refine (HW.out.once 6 (by omega)).mono ?_; rintro e w6 ⟨up, rfl, hd⟩; replace HW := Shut.mk (HW.out.draw hd); clear hd; obtain ⟨o1, o1z⟩ := HW.out.bx 0 rfl 1 _ rfl)
        have HP := Shut.mk (HW.out.put 0 rfl 1 (.bool (!up)) (by simp))
        simp only [List.set_cons_zero, List.set_cons_succ] at HP
        generalize (!up) = up9 at HP ⊢
        refine wp_shade (fun W' => SD w0 W' g B a len cap (bxS hb [.int .i64 id, .bool up9, .slice v8 n8 c8] :: rwS v8 (unS us8) lo8 hi8 :: bxS rb [.int .i64 0, .bool false, .slice none 0 0] :: S)) HP.out ?_
        intro W7 h7
        have H7 := Shut.mk h7
        clear h7 HP o1 o1z HW
        have z0 := (H7.out.bx 0 rfl 0 _ rfl).1
        have z1 := (H7.out.bx 0 rfl 1 _ rfl).1
        have z2 := (H7.out.bx 0 rfl 2 _ rfl).1
        obtain ⟨r0, r0z⟩ := H7.out.bx 2 rfl 0 _ rfl
        obtain ⟨r1, r1z⟩ := H7.out.bx 2 rfl 1 _ rfl
        obtain ⟨r2, r2z⟩ := H7.out.bx 2 rfl 2 _ rfl
        go_wp2_with fail
        have HE := Shut.mk (((((H7.out.put 2 rfl 0 (.int .i64 id) (by simp)).put 2 rfl 1 (.bool up9) (by simp)).put 2 rfl 2 (.slice v8 n8 c8) (by simp)).tail).drop1)
        refine bodyPost_ret (v := .agg #[.int .i64 id, .bool up9, .slice v8 n8 c8]) (by simp [results, Tryd.results29, go_sem, r0, r1, r2]) rfl ?_
        exact ⟨⟨id, up9, us8⟩, v8, c8, lo8, hi8, by rw [HN.out], HGQ.out, by have := HN.out; show us8.length ≤ c8; omega, HE.out⟩
end Go.Proofs.YtbanfccnmbmcfaaDoor
