/- Texts of ours, laid one behind the other: SpN, SpO, DrLe, PaI, PaJ, NestB, StrW, OffA, GuardA. -/
import Derived.Test.YtcnjjbgilpgceaaPm4
import Derived.Deep.CutRange
import Derived.Deep.AppendLies
import Derived.WalkSmall
import Derived.Laws.RangeAny
import Derived.Test.YtcnjjbgilpgceaaRows
import Derived.Maps.AppendAt
/- SpN: The models' LeasesOk, l16Copy, RenewLeases, DropLease, Expired (written by gen/mklease.py). -/
namespace Go.Proofs.Ytcnjjbgilpgceaa
set_option maxRecDepth 100000
open Go.RowKit BigFrame
attribute [local go_sem ↓] Go.wp_at_zero Go.wp_at_succ

/-- A row of leases that is answered: its memory is its own. -/
def LsPost (L : List LsM) (w : World) (e : Ending) (w' : World) : Prop := ∃ a c, e = .returned (.slice a L.length c) ∧ FRw w' a (lsS L) w.heap.size w'.heap.size ∧ L.length ≤ c ∧ Below w.heap.size w w'
def LbPost (r : List LsM × Bool) (w : World) (e : Ending) (w' : World) : Prop := ∃ a c, e = .returned (.tuple #[.slice a r.1.length c, .bool r.2]) ∧ FRw w' a (lsS r.1) w.heap.size w'.heap.size ∧ r.1.length ≤ c ∧ Below w.heap.size w w'
theorem lss_one (us : List LsM) : ∀ u ∈ lsS us, u.oneCell' = true := by
  intro u hu
  unfold lsS at hu
  obtain ⟨x, _, hx⟩ := List.mem_flatMap.1 hu
  simp only [lsC, List.mem_cons, List.not_mem_nil, or_false] at hx
  rcases hx with rfl | rfl | rfl <;> rfl
theorem lss_snoc (us : List LsM) (u : LsM) : lsS (us ++ [u]) = lsS us ++ lsC u := by simp [lsS]
/-- The lease at a place, in every later world. -/
theorem ls_at {w W : World} {a : Option Addr} {us : List LsM} (hr : LsRow w a us) (hb : Below w.heap.size w W) {k : Nat} (hk : k < us.length) : ∃ b off u, a = some ⟨b, off, none⟩ ∧ u = us[k] ∧ b < w.heap.size ∧ ∀ X, Below W.heap.size W X → X.cell? ⟨b, off + k * 3, none⟩ = some (.string u.path) ∧ X.cell? ⟨b, off + k * 3 + 1, none⟩ = some (.int .i64 u.who) ∧ X.cell? ⟨b, off + k * 3 + 2, none⟩ = some (.int .i64 u.seen) := by
  obtain ⟨b, off, e, lb, _⟩ := LsRow.at hr (by omega)
  refine ⟨b, off, us[k], e, rfl, lb, fun X hX => ?_⟩
  obtain ⟨b', off', e', _, hc⟩ := LsRow.at (hr.stays (hb.trans (hX.mono hb.size))) (by omega)
  rw [e] at e'
  simp only [Option.some.injEq, Addr.mk.injEq, and_true] at e'
  obtain ⟨rfl, rfl⟩ := e'
  exact hc k hk
theorem leasesOk_no {L : List LsM} {k : Nat} (hk : k < L.length) (h : lsAt L k = false) : leasesOk L = false := by
  cases hb : leasesOk L with
  | false => rfl
  | true => have := leasesOk_at hb k hk; rw [h] at this; cases this
theorem leasesOk_is {L : List LsM} (h : ∀ k, k < L.length → lsAt L k = true) : leasesOk L = decide (L.length ≤ 8) := by
  unfold leasesOk
  rw [List.all_eq_true.2 fun k hk => h k (by simpa using hk)]
  rfl
set_option maxRecDepth 100000 in
set_option maxHeartbeats 4000000 in
theorem specLeasesOk (us : List LsM) (a : Option Addr) (cap : Nat) (w : World) (hr : LsRow w a us) (hl : us.length ≤ 1048576) (hf : ∀ u ∈ us, u.path.size ≤ 1048576) :
    Calls Try.prog 22 #[.slice a us.length cap] w fun e w' => e = .returned (.bool (leasesOk us)) ∧ Below w.heap.size w w' := by
  have HR := Shut.mk hr
  have HF := Shut.mk hf
  clear hr hf
  obtain ⟨n, hn⟩ : ∃ n, n = us.length := ⟨_, rfl⟩
  have HN := Shut.mk hn
  rw [← hn] at hl ⊢
  clear hn
  obtain ⟨R, hR⟩ : ∃ R, R = leasesOk us := ⟨_, rfl⟩
  rw [← hR]
  have HQ := Shut.mk hR
  clear hR
  go_enter Try.func22, Try.ntmps22
  go_wp2_with fail
  go_loopw [3] (fun i wr => ∃ (k : Nat), i = .int .i64 k ∧ k ≤ n ∧ Shut (∀ j, j < k → lsAt us j = true) ∧ Shut (Below w.heap.size w wr)) (fun i _ => n - (intOf i).toNat)
  case atStart => exact ⟨0, rfl, Nat.zero_le _, ⟨fun j hj => by omega⟩, ⟨Below.refl _ _⟩⟩
  case round =>
    obtain ⟨k, rfl, hk, HG, HW⟩ := hrel
    by_cases hlt : k < n
    · have hku : k < us.length := by rw [← HN.out]; exact hlt
      obtain ⟨b, off, u, rfl, hu, lb, hc⟩ := ls_at HR.out HW.out hku
      have HU : Shut (us.getD k default = u) := ⟨(getD_ls us k hku).trans hu.symm⟩
      have k0 : (0 : Int) ≤ (k : Int) := by omega
      have k1 : (k : Int) < (n : Int) := by omega
      have g0 : ∀ X : Grow wr, X.val.cell? ⟨b, off + k * 3, none⟩ = some (.string u.path) := fun X => (hc X.val X.bel).1
      have g1 : ∀ X : Grow wr, X.val.cell? ⟨b, off + k * 3 + 1, none⟩ = some (.int .i64 u.who) := fun X => (hc X.val X.bel).2.1
      have g2 : ∀ X : Grow wr, X.val.cell? ⟨b, off + k * 3 + 2, none⟩ = some (.int .i64 u.seen) := fun X => (hc X.val X.bel).2.2
      have HGR : Shut (∀ X : Grow wr, Below w.heap.size w X.val) := ⟨fun X => HW.out.trans (X.bel.mono HW.out.size)⟩
      have HNO : Shut (lsAt us k = false → R = false) := ⟨fun h => HQ.out.trans (leasesOk_no hku h)⟩
      have HONE : Shut (lsAt us k = (named u.path && inI u.who 1 9 && inI u.seen 0 1000000000 && (decide (k = 0) || lt9 (us.getD (k - 1) default).path u.path))) := ⟨by unfold lsAt lsOne; rw [HU.out]⟩
      have HNM := Shut.mk (fun X => calls_grow (w := wr) (fun W' (_ : Below wr.heap.size wr W') => specNamed u.path W' (by rw [hu]; exact HF.out _ (List.getElem_mem hku))) X)
      clear hc hu
      go_upto_region 4 with fail
      cases hnm : named u.path with
      | false =>
        rw [hnm] at HNM HONE
        refine wp_region_grow (by kernel_rfl) (by kernel_rfl) ?_
        repeat (go_big_quiet_step (first | (go_at_call 49; first | with_reducible exact HNM.out _ | fail)))
        refine wpQuiet_nil ?_
        rintro _ ⟨X, rfl⟩
        go_wp2_with fail
        go_ret
        exact ⟨by rw [HNO.out (by rw [HONE.out]; simp [*])]; rfl, HGR.out X⟩
      | true =>
        rw [hnm] at HNM HONE
        cases h_t2 : inI u.who 1 9 with
        | false =>
          have It2 := Shut.mk (fun X => calls_same (w := wr) (fun W' (_ : Below wr.heap.size wr W') => isInI u.who 1 9 W' false h_t2) X)
          refine wp_region_grow (by kernel_rfl) (by kernel_rfl) ?_
          repeat (go_big_quiet_step (first | (go_at_call 49; first | with_reducible exact HNM.out _ | fail) | (go_at_call 47; first | with_reducible exact It2.out _ | fail)))
          refine wpQuiet_nil ?_
          rintro _ ⟨X, rfl⟩
          go_wp2_with fail
          go_ret
          exact ⟨by rw [HNO.out (by rw [HONE.out]; simp [*])]; rfl, HGR.out X⟩
        | true =>
          have It2 := Shut.mk (fun X => calls_same (w := wr) (fun W' (_ : Below wr.heap.size wr W') => isInI u.who 1 9 W' true h_t2) X)
          cases h_t3 : inI u.seen 0 1000000000 with
          | false =>
            have It3 := Shut.mk (fun X => calls_same (w := wr) (fun W' (_ : Below wr.heap.size wr W') => isInI u.seen 0 1000000000 W' false h_t3) X)
            refine wp_region_grow (by kernel_rfl) (by kernel_rfl) ?_
            repeat (go_big_quiet_step (first | (go_at_call 49; first | with_reducible exact HNM.out _ | fail) | (go_at_call 47; first | with_reducible exact It2.out _ | with_reducible exact It3.out _ | fail)))
            refine wpQuiet_nil ?_
            rintro _ ⟨X, rfl⟩
            go_wp2_with fail
            go_ret
            exact ⟨by rw [HNO.out (by rw [HONE.out]; simp [*])]; rfl, HGR.out X⟩
          | true =>
            have It3 := Shut.mk (fun X => calls_same (w := wr) (fun W' (_ : Below wr.heap.size wr W') => isInI u.seen 0 1000000000 W' true h_t3) X)
            by_cases hz : k = 0
            case pos =>
              have hz' : decide (0 < k) = false := by simp; omega
              have hz2 : ¬ 0 < k := by omega
              have hzd : decide (k = 0) = true := by simpa using hz
              clear hz
              refine wp_region_grow (by kernel_rfl) (by kernel_rfl) ?_
              repeat (go_big_quiet_step (first | (go_at_call 49; first | with_reducible exact HNM.out _ | fail) | (go_at_call 47; first | with_reducible exact It2.out _ | with_reducible exact It3.out _ | fail)))
              refine wpQuiet_nil ?_
              rintro _ ⟨X, rfl⟩
              go_wp2_with fail
              go_roundw
              case rel => exact ⟨k + 1, by go_num, by omega, ⟨fun j hj => by rcases Nat.lt_succ_iff_lt_or_eq.1 hj with h | h; exact HG.out j h; subst h; rw [HONE.out]; simp [*]⟩, ⟨HGR.out X⟩⟩
              case measure => simp [intOf]; omega
            have hzd : decide (k = 0) = false := by simpa using hz
            have hz' : decide (0 < k) = true := by simp; omega
            have hz3 : 0 < k := by omega
            obtain ⟨b', off', y, e', hy, _, hc2⟩ := ls_at HR.out HW.out (k := k - 1) (by omega)
            obtain ⟨rfl, rfl⟩ : b = b' ∧ off = off' := by simpa using e'
            have HY : Shut (us.getD (k - 1) default = y) := ⟨(getD_ls us (k - 1) (by omega)).trans hy.symm⟩
            have p0 : ∀ X : Grow wr, X.val.cell? ⟨b, off + (k - 1) * 3, none⟩ = some (.string y.path) := fun X => (hc2 X.val X.bel).1
            have hk1 : (k : Int) - 1 = ((k - 1 : Nat) : Int) := by omega
            have hk2 : (0 : Int) ≤ ((k - 1 : Nat) : Int) := by omega
            have hk3 : ((k - 1 : Nat) : Int) < (n : Int) := by omega
            rw [HY.out] at HONE
            clear hy hc2 hz e'
            cases hal : lt9 y.path u.path with
            | false =>
              have hal' : Op.bytesLess y.path.toList u.path.toList = false := hal
              rw [hal] at HONE
              refine wp_region_grow (by kernel_rfl) (by kernel_rfl) ?_
              repeat (go_big_quiet_step (first | (go_at_call 49; first | with_reducible exact HNM.out _ | fail) | (go_at_call 47; first | with_reducible exact It2.out _ | with_reducible exact It3.out _ | fail)))
              refine wpQuiet_nil ?_
              rintro _ ⟨X, rfl⟩
              go_wp2_with fail
              go_ret
              exact ⟨by rw [HNO.out (by rw [HONE.out]; simp [*])]; rfl, HGR.out X⟩
            | true =>
              have hal' : Op.bytesLess y.path.toList u.path.toList = true := hal
              rw [hal] at HONE
              refine wp_region_grow (by kernel_rfl) (by kernel_rfl) ?_
              repeat (go_big_quiet_step (first | (go_at_call 49; first | with_reducible exact HNM.out _ | fail) | (go_at_call 47; first | with_reducible exact It2.out _ | with_reducible exact It3.out _ | fail)))
              refine wpQuiet_nil ?_
              rintro _ ⟨X, rfl⟩
              go_wp2_with fail
              go_roundw
              case rel => exact ⟨k + 1, by go_num, by omega, ⟨fun j hj => by rcases Nat.lt_succ_iff_lt_or_eq.1 hj with h | h; exact HG.out j h; subst h; rw [HONE.out]; simp [*]⟩, ⟨HGR.out X⟩⟩
              case measure => simp [intOf]; omega
    · obtain rfl : n = k := by omega
      have HT : Shut (R = decide ((n : Int) ≤ 8)) := ⟨by rw [HQ.out, leasesOk_is fun j hj => HG.out j (by have := HN.out; omega), ← HN.out]; congr 1; simp only [eq_iff_iff]; omega⟩
      go_wp2_with fail
      go_ret
      exact ⟨by rw [HT.out]; first | rfl | (refine congrArg (fun b => Ending.returned (.bool b)) ?_; simp), HW.out⟩
theorem specCopy16 (us : List LsM) (a : Option Addr) (cap : Nat) (w : World) (hr : LsRow w a us) (hl : us.length ≤ 1048576) :
    Calls Try.prog 52 #[.slice a us.length cap] w fun e w' => LsPost us w e w' := by
  obtain ⟨i0, hin, hz0, hz1, hz2⟩ := info_parts infoLease
  have HR := Shut.mk hr
  have HO := Shut.mk (OwS.new (ty := 35) (sz := 3) (SL.start w))
  obtain ⟨n, hn⟩ : ∃ n, n = us.length := ⟨_, rfl⟩
  have HN := Shut.mk hn
  rw [← hn] at hl ⊢
  clear hr hn
  go_enter Try.func52, Try.ntmps52
  go_wp2_with (at_builtin; refine wpList_append_row _ rfl _ _ 24 rfl w.heap.size 35 i0 _ 3 32 Try.underlying24 hin hz0 hz1 hz2 rfl (by decide) _ _ _ rfl HO.out.own a n cap (lsS us) rfl (by rw [lsS_len, HN.out]) (HR.out.stays HO.out.sl.bel) (lss_one us) (by unfold maxLen; omega) (by omega) HO.out.sl.bel.size ?_; intro v6 w6 ho6 hg6 ha6; obtain ⟨a7, c7, rfl⟩ := own_row_slice ho6; have H6 := Shut.mk (HO.out.more (Below.refl _ _) ho6 hg6 ha6); clear ho6 hg6 ha6 HO; simp only [Nat.zero_add, List.nil_append] at H6)
  go_ret
  obtain ⟨a8, c8, e8, hf8, hc8⟩ := H6.out.frw
  obtain ⟨rfl, rfl⟩ : a7 = a8 ∧ c7 = c8 := by simpa using e8
  exact ⟨a7, c7, by rw [← HN.out]; simp, hf8, by rw [← HN.out]; exact hc8, H6.out.sl.bel⟩
theorem set_same9 {α : Type} {Z : List α} {i : Nat} {v : α} (h : Z[i]? = some v) : Z.set i v = Z := by
  obtain ⟨hi, e⟩ := List.getElem?_eq_some_iff.1 h
  subst e
  exact List.set_getElem_self hi
theorem frw_wide9 {W : World} {va : Option Addr} {X : List Value} {lo hi lo' hi' : Nat} (h : FRw W va X lo hi) (h1 : lo' ≤ lo) (h2 : hi ≤ hi') : FRw W va X lo' hi' := by
  rcases h with e | ⟨g, e, q1, q2, q3⟩
  · exact .inl e
  · exact .inr ⟨g, e, by omega, by omega, q3⟩
/-- What is renewed. -/
theorem lss_seen (us : List LsM) (k : Nat) (h : k < us.length) (t : Int) : (lsS us).set (k * 3 + 2) (.int .i64 t) = lsS (us.set k ⟨us[k].path, us[k].who, t⟩) := by
  have q := flat_setL lsC_len us k h ⟨us[k].path, us[k].who, t⟩
  have e0 : (lsS us)[k * 3]? = some (.string us[k].path) := flat_get lsC_len us k h 0 (by omega)
  have e1 : (lsS us)[k * 3 + 1]? = some (.int .i64 us[k].who) := flat_get lsC_len us k h 1 (by omega)
  have q' : lsS (us.set k ⟨us[k].path, us[k].who, t⟩) = setL (lsS us) (k * 3) (lsC ⟨us[k].path, us[k].who, t⟩) := q.symm
  rw [q']
  clear q q'
  generalize lsS us = Z at *
  simp only [lsC, setL]
  rw [set_same9 e0, set_same9 e1]
theorem lss_both (us : List LsM) (k : Nat) (h : k < us.length) (p t : Int) : ((lsS us).set (k * 3 + 1) (.int .i64 p)).set (k * 3 + 2) (.int .i64 t) = lsS (us.set k ⟨us[k].path, p, t⟩) := by
  have q := flat_setL lsC_len us k h ⟨us[k].path, p, t⟩
  have e0 : (lsS us)[k * 3]? = some (.string us[k].path) := flat_get lsC_len us k h 0 (by omega)
  have q' : lsS (us.set k ⟨us[k].path, p, t⟩) = setL (lsS us) (k * 3) (lsC ⟨us[k].path, p, t⟩) := q.symm
  rw [q']
  clear q q'
  generalize lsS us = Z at *
  simp only [lsC, setL]
  rw [set_same9 e0]
/-- The row of a stretch that is not empty. -/
theorem frw_row {W : World} {va : Option Addr} {us : List LsM} {lo hi k : Nat} (h : FRw W va (lsS us) lo hi) (hk : k < us.length) : ∃ g, va = some ⟨g, 0, none⟩ ∧ lo ≤ g ∧ g < hi ∧ WCells W g (lsS us) := by
  rcases h with ⟨_, e⟩ | q
  · have := congrArg List.length e
    rw [lsS_len] at this
    simp at this
    omega
  · exact q
set_option maxRecDepth 100000 in
set_option maxHeartbeats 4000000 in
theorem specRenew (us : List LsM) (a : Option Addr) (cap : Nat) (who now : Int) (w : World) (hr : LsRow w a us) (hl : us.length ≤ 1048576) :
    Calls Try.prog 28 #[.slice a us.length cap, .int .i64 who, .int .i64 now] w fun e w' => LsPost (renewX us who now) w e w' := by
  have HCP := Shut.mk (specCopy16 us a cap w hr hl)
  unfold LsPost at HCP
  obtain ⟨n, hn⟩ : ∃ n, n = us.length := ⟨_, rfl⟩
  have HN := Shut.mk hn
  rw [← hn] at hl HCP ⊢
  clear hr hn
  go_enter Try.func28, Try.ntmps28
  go_wp2_with (go_at_call 52; refine HCP.out.mono ?_; rintro e w1 ⟨a7, c7, rfl, hF, hc7, hb⟩; have H := Shut.mk ((SL.start w).add (s := rwS a7 (lsS us) _ w1.heap.size) hb hF (rwS.loc _ _ _ _) (Nat.le_refl _) (Nat.le_refl _)); clear hF hb)
  obtain ⟨hi, hhi⟩ : ∃ q, q = w1.heap.size := ⟨_, rfl⟩
  rw [← hhi] at H
  clear hhi HCP
  go_loopw [8] (fun i wr => ∃ (k : Nat) (L : List LsM), i = .int .i64 k ∧ k ≤ n ∧ Shut (L = (us.take k).map (fun f => if f.who = who then ⟨f.path, f.who, now⟩ else f) ++ us.drop k) ∧ Shut (SL w wr [rwS a7 (lsS L) w.heap.size hi])) (fun i _ => n - (intOf i).toNat)
  case atStart => exact ⟨0, us, rfl, Nat.zero_le _, ⟨by simp⟩, H⟩
  case round =>
    clear H
    obtain ⟨k, L, rfl, hk, HL, H⟩ := hrel
    have HLL : Shut (L.length = n) := ⟨by rw [HL.out, List.length_append, List.length_map, List.length_take, List.length_drop, ← HN.out]; omega⟩
    by_cases hlt : k < n
    · have hku : k < us.length := by rw [← HN.out]; exact hlt
      have hkl : k < L.length := by rw [HLL.out]; exact hlt
      obtain ⟨g, rfl, g1, g2, hw⟩ := frw_row (show FRw wr a7 (lsS L) w.heap.size hi from H.out.at 0 rfl) hkl
      obtain ⟨p1, z1⟩ := hw.2 (k * 3 + 1) _ (flat_get lsC_len L k hkl 1 (by omega))
      obtain ⟨p2, z2⟩ := hw.2 (k * 3 + 2) _ (flat_get lsC_len L k hkl 2 (by omega))
      have eK : L[k] = us[k] := by
        have e : L[k]? = us[k]? := by rw [HL.out, List.getElem?_append_right (by simp; omega), List.length_map, List.length_take, Nat.min_eq_left (by omega), List.getElem?_drop]; congr 1; omega
        rw [List.getElem?_eq_getElem hkl, List.getElem?_eq_getElem hku] at e
        exact Option.some.inj e
      have HNX : Shut (L.set k (if us[k].who = who then ⟨us[k].path, us[k].who, now⟩ else us[k]) = (us.take (k + 1)).map (fun f => if f.who = who then ⟨f.path, f.who, now⟩ else f) ++ us.drop (k + 1)) := ⟨by
        rw [HL.out, List.set_append_right _ _ (by simp; omega), List.length_map, List.length_take, Nat.min_eq_left (by omega), Nat.sub_self, List.take_succ_eq_append_getElem hku, List.map_append, List.append_assoc, List.drop_eq_getElem_cons hku]
        rfl⟩
      have HT := Shut.mk (H.out.turn 0 rfl (W' := wr.setCell ⟨g, k * 3 + 2, none⟩ (.int .i64 now)) (q := fun W => FRw W (some ⟨g, 0, none⟩) (lsS (L.set k ⟨us[k].path, us[k].who, now⟩)) w.heap.size hi) (Turned.of_grown (gb_set' wr g (k * 3 + 2) _) g1 g2) (by
        have q1 := hw.set (k * 3 + 2) (.int .i64 now) (by rw [lsS_len]; omega)
        rw [lss_seen L k hkl now, eK] at q1
        exact .inr ⟨g, rfl, g1, g2, q1⟩) (rwS.loc _ _ _ _))
      simp only [List.set_cons_zero] at HT
      have HSM : Shut (L.set k us[k] = L) := ⟨by rw [← eK]; exact List.set_getElem_self hkl⟩
      rw [eK] at p1 p2
      obtain ⟨u, hu⟩ : ∃ u, u = us[k] := ⟨_, rfl⟩
      rw [← hu] at p1 p2 HNX HT HSM
      have k0 : (0 : Int) ≤ (k : Int) := by omega
      have k1 : (k : Int) < (n : Int) := by omega
      clear eK hu hw g1 g2
      by_cases hwh : u.who = who
      · have hb : (u.who == who) = true := by simpa using hwh
        rw [if_pos hwh] at HNX
        clear hwh
        go_wp2_with fail
        go_roundw
        case rel => exact ⟨k + 1, _, by go_num, by omega, HNX, HT⟩
        case measure => simp [intOf]; omega
      · have hb : (u.who == who) = false := by simpa using hwh
        rw [if_neg hwh, HSM.out] at HNX
        clear hwh
        go_wp2_with fail
        go_roundw
        case rel => exact ⟨k + 1, _, by go_num, by omega, HNX, H⟩
        case measure => simp [intOf]; omega
    · obtain rfl : n = k := by omega
      have HE : Shut (renewX us who now = L) := ⟨by rw [HL.out, List.take_of_length_le (by have := HN.out; omega), List.drop_of_length_le (by have := HN.out; omega), List.append_nil]; rfl⟩
      go_wp2_with fail
      go_ret
      rw [HE.out]
      have hs := H.out.is _ (List.mem_cons_self ..)
      exact ⟨a7, c7, by rw [HLL.out]; rfl, frw_wide9 hs.1 (Nat.le_refl _) hs.2.2.2, by rw [HLL.out]; exact hc7, H.out.bel⟩
end Go.Proofs.Ytcnjjbgilpgceaa
/- SpO: The model's TakeLease (written by gen/mktake.py). -/
namespace Go.Proofs.Ytcnjjbgilpgceaa
set_option maxRecDepth 100000
open Go.RowKit BigFrame
attribute [local go_sem ↓] Go.wp_at_zero Go.wp_at_succ

theorem lsAt_in {us : List LsM} {k : Nat} (hk : k < us.length) (h : lsAt us k = true) : 0 ≤ us[k].seen ∧ us[k].seen ≤ 1000000000 := by
  unfold lsAt lsOne at h
  rw [getD_ls us k hk] at h
  simp only [Bool.and_eq_true] at h
  exact inI_iff.1 h.1.2
set_option maxRecDepth 100000 in
set_option maxHeartbeats 8000000 in
theorem specTakeLease (us : List LsM) (a : Option Addr) (cap : Nat) (p : ByteArray) (who now : Int) (w : World) (hr : LsRow w a us) (hl : us.length ≤ 1048576) (hf : ∀ u ∈ us, u.path.size ≤ 1048576) (hp : p.size ≤ 1048576) :
    Calls Try.prog 25 #[.slice a us.length cap, .string p, .int .i64 who, .int .i64 now] w fun e w' => LbPost (takeX us p who now) w e w' := by
  obtain ⟨i0, hin, hz0, hz1, hz2⟩ := info_parts infoLease
  have HR := Shut.mk hr
  have HCP := Shut.mk (specCopy16 us a cap w hr hl)
  have HLO := Shut.mk (fun (W : World) (hb : Below w.heap.size w W) => specLeasesOk us a cap W (hr.stays hb) hl hf)
  have HNM := Shut.mk (fun W => specNamed p W hp)
  have I3 := Shut.mk (fun W => isInI who 1 9 W _ rfl)
  have I4 := Shut.mk (fun W => isInI now 0 1000000000 W _ rfl)
  have HAL : Shut (leasesOk us = true → us.length ≤ 8 ∧ ∀ k (hk : k < us.length), 0 ≤ us[k].seen ∧ us[k].seen ≤ 1000000000) := ⟨fun h => ⟨leasesOk_len h, fun k hk => lsAt_in hk (leasesOk_at h k hk)⟩⟩
  have HNW : Shut (inI now 0 1000000000 = true → 0 ≤ now ∧ now ≤ 1000000000) := ⟨fun h => inI_iff.1 h⟩
  obtain ⟨RR, hRR⟩ : ∃ q, q = takeX us p who now := ⟨_, rfl⟩
  rw [← hRR]
  have HQ := Shut.mk hRR
  unfold takeX takeOk at HQ
  generalize leasesOk us = lo at HLO HQ HAL
  generalize named p = nm at HNM HQ
  generalize inI who 1 9 = b3 at I3 HQ
  generalize inI now 0 1000000000 = b4 at I4 HQ HNW
  unfold LsPost at HCP
  obtain ⟨n, hn⟩ : ∃ n, n = us.length := ⟨_, rfl⟩
  have HN := Shut.mk hn
  rw [← hn] at hl HCP HLO ⊢
  clear hr hf hp hn hRR
  go_enter Try.func25, Try.ntmps25
  go_upto_region 2 with (go_at_call 52; refine HCP.out.mono ?_; rintro e w1 ⟨a7, c7, rfl, hF, hc7, hb⟩; have H := Shut.mk ((SL.start w).add (s := rwS a7 (lsS us) w.heap.size w1.heap.size) hb hF (rwS.loc _ _ _ _) (Nat.le_refl _) (Nat.le_refl _)); clear hF hb)
  obtain ⟨hi, hhi⟩ : ∃ q, q = w1.heap.size := ⟨_, rfl⟩
  rw [← hhi] at H
  clear hhi HCP
  cases lo with
  | false =>
    have HE : Shut (RR = (us, false)) := ⟨by rw [HQ.out]; rfl⟩
    go_wp2_with (go_at_call 22; (with_reducible refine (HLO.out _ H.out.bel).mono ?_); rintro e w2 ⟨rfl, hb⟩; replace H := Shut.mk (H.out.below hb); clear hb)
    go_ret2
    rw [HE.out]
    have hs := H.out.is _ (List.mem_cons_self ..)
    exact ⟨_, c7, by rw [HN.out]; rfl, frw_wide9 hs.1 hs.2.2.1 hs.2.2.2, by have := HN.out; show us.length ≤ c7; omega, H.out.bel⟩
  | true =>
  cases nm with
  | false =>
    have HE : Shut (RR = (us, false)) := ⟨by rw [HQ.out]; rfl⟩
    go_wp2_with (first | (go_at_call 22; (with_reducible refine (HLO.out _ H.out.bel).mono ?_); rintro e w2 ⟨rfl, hb⟩; replace H := Shut.mk (H.out.below hb); clear hb) | (go_at_call 49; (with_reducible refine (HNM.out _).mono ?_); rintro e w3 ⟨rfl, hb⟩; replace H := Shut.mk (H.out.below hb); clear hb))
    go_ret2
    rw [HE.out]
    have hs := H.out.is _ (List.mem_cons_self ..)
    exact ⟨_, c7, by rw [HN.out]; rfl, frw_wide9 hs.1 hs.2.2.1 hs.2.2.2, by have := HN.out; show us.length ≤ c7; omega, H.out.bel⟩
  | true =>
  cases b3 with
  | false =>
    have HE : Shut (RR = (us, false)) := ⟨by rw [HQ.out]; rfl⟩
    go_wp2_with (first | (go_at_call 22; (with_reducible refine (HLO.out _ H.out.bel).mono ?_); rintro e w2 ⟨rfl, hb⟩; replace H := Shut.mk (H.out.below hb); clear hb) | (go_at_call 49; (with_reducible refine (HNM.out _).mono ?_); rintro e w3 ⟨rfl, hb⟩; replace H := Shut.mk (H.out.below hb); clear hb) | (go_at_call 47; (with_reducible refine (I3.out _).mono ?_); rintro e w4 ⟨rfl, rfl⟩))
    go_ret2
    rw [HE.out]
    have hs := H.out.is _ (List.mem_cons_self ..)
    exact ⟨_, c7, by rw [HN.out]; rfl, frw_wide9 hs.1 hs.2.2.1 hs.2.2.2, by have := HN.out; show us.length ≤ c7; omega, H.out.bel⟩
  | true =>
  cases b4 with
  | false =>
    have HE : Shut (RR = (us, false)) := ⟨by rw [HQ.out]; rfl⟩
    go_wp2_with (first | (go_at_call 22; (with_reducible refine (HLO.out _ H.out.bel).mono ?_); rintro e w2 ⟨rfl, hb⟩; replace H := Shut.mk (H.out.below hb); clear hb) | (go_at_call 49; (with_reducible refine (HNM.out _).mono ?_); rintro e w3 ⟨rfl, hb⟩; replace H := Shut.mk (H.out.below hb); clear hb) | (go_at_call 47; (with_reducible refine (I3.out _).mono ?_); rintro e w4 ⟨rfl, rfl⟩) | (go_at_call 47; (with_reducible refine (I4.out _).mono ?_); rintro e w5 ⟨rfl, rfl⟩))
    go_ret2
    rw [HE.out]
    have hs := H.out.is _ (List.mem_cons_self ..)
    exact ⟨_, c7, by rw [HN.out]; rfl, frw_wide9 hs.1 hs.2.2.1 hs.2.2.2, by have := HN.out; show us.length ≤ c7; omega, H.out.bel⟩
  | true =>
  simp only [Bool.and_self, if_true] at HQ
  replace HAL := Shut.mk (HAL.out rfl)
  obtain ⟨nw0, nw1⟩ := HNW.out rfl
  have hn8 : n ≤ 8 := by have := HAL.out.1; have := HN.out; omega
  go_upto_region 4 with (first | (go_at_call 22; (with_reducible refine (HLO.out _ H.out.bel).mono ?_); rintro e w2 ⟨rfl, hb⟩; replace H := Shut.mk (H.out.below hb); clear hb) | (go_at_call 49; (with_reducible refine (HNM.out _).mono ?_); rintro e w3 ⟨rfl, hb⟩; replace H := Shut.mk (H.out.below hb); clear hb) | (go_at_call 47; (with_reducible refine (I3.out _).mono ?_); rintro e w4 ⟨rfl, rfl⟩) | (go_at_call 47; (with_reducible refine (I4.out _).mono ?_); rintro e w5 ⟨rfl, rfl⟩))
  clear HLO HNM I3 I4 HNW
  go_wp2_with fail
  go_loop [11] (fun i9 => ∃ (k : Nat), i9 = .int .i64 k ∧ k ≤ n ∧ Shut (∀ j (hj : j < us.length), j < k → (us[j].path.toList == p.toList) = false)) (fun i9 => n - (intOf i9).toNat)
  case atStart => exact ⟨0, rfl, Nat.zero_le _, ⟨fun j _ hj => by omega⟩⟩
  case round =>
    obtain ⟨k, rfl, hk, HG⟩ := hrel
    by_cases hlt : k < n
    · have hku : k < us.length := by rw [← HN.out]; exact hlt
      obtain ⟨g, rfl, g1, g2, hw⟩ := frw_row (show FRw _ a7 (lsS us) w.heap.size hi from H.out.at 0 rfl) hku
      have p0 := (hw.2 (k * 3) _ (flat_get lsC_len us k hku 0 (by omega))).1
      obtain ⟨p1, z1⟩ := hw.2 (k * 3 + 1) _ (flat_get lsC_len us k hku 1 (by omega))
      obtain ⟨p2, z2⟩ := hw.2 (k * 3 + 2) _ (flat_get lsC_len us k hku 2 (by omega))
      have HWC := Shut.mk (And.intro g1 (And.intro g2 hw))
      have HNX : Shut ((us[k].path.toList == p.toList) = false → ∀ j (hj : j < us.length), j < k + 1 → (us[j].path.toList == p.toList) = false) := ⟨fun h j hj hjk => by
        rcases Nat.lt_succ_iff_lt_or_eq.1 hjk with e | e
        · exact HG.out j hj e
        · subst e; exact h⟩
      have HQ2 : Shut ((us[k].path.toList == p.toList) = true → RR = if us[k].who ≠ who ∧ now - us[k].seen < 5 then (us, false) else (us.set k ⟨us[k].path, who, now⟩, true)) := ⟨fun h => by
        rw [HQ.out, lsIdx_found hku h HG.out, if_pos hku, getD_ls us k hku]⟩
      obtain ⟨s0, s1⟩ := HAL.out.2 k hku
      obtain ⟨u, hu⟩ : ∃ u, u = us[k] := ⟨_, rfl⟩
      have HU := Shut.mk hu
      have p0' : _ = some (Value.string us[k].path) := p0
      have p1' : _ = some (Value.int .i64 us[k].who) := p1
      have p2' : _ = some (Value.int .i64 us[k].seen) := p2
      rw [← hu] at p0' p1' p2' HNX HQ2 s0 s1
      clear p0 p1 p2 g1 g2 hw hu
      have k0 : (0 : Int) ≤ (k : Int) := by omega
      have k1 : (k : Int) < (n : Int) := by omega
      cases hq : u.path.toList == p.toList with
      | false =>
        have hq' : (u.path.toList != p.toList) = true := by rw [bne, hq]; rfl
        have HX := Shut.mk (HNX.out hq)
        go_wp2_with fail
        go_round
        case rel => exact ⟨k + 1, by go_num, by omega, HX⟩
        case measure => simp [intOf]; omega
      | true =>
        have hq' : (u.path.toList != p.toList) = false := by rw [bne, hq]; rfl
        replace HQ2 := Shut.mk (HQ2.out hq)
        by_cases hwh : u.who = who
        · have hw' : (u.who != who) = false := by simpa using hwh
          have HE : Shut (RR = (us.set k ⟨u.path, who, now⟩, true)) := ⟨by rw [HQ2.out, if_neg (fun h => h.1 hwh)]⟩
          clear hwh
          go_wp2_with fail
          go_ret2
          rw [HE.out]
          have q1 := (HWC.out.2.2.set (k * 3 + 1) (.int .i64 who) (by rw [lsS_len]; omega)).set (k * 3 + 2) (.int .i64 now) (by rw [List.length_set, lsS_len]; omega)
          rw [lss_both us k hku who now, ← HU.out] at q1
          have hs := H.out.is _ (List.mem_cons_self ..)
          have hg1 := HWC.out.1
          have hg2 := HWC.out.2.1
          have hle : hi ≤ _ := hs.2.2.2
          exact ⟨some ⟨g, 0, none⟩, c7, by show _ = Ending.returned (.tuple #[.slice _ (us.set k _).length c7, .bool true]); rw [List.length_set, ← HN.out]; rfl, .inr ⟨g, rfl, hg1, by simp [World.setCell]; omega, q1⟩, by have := HN.out; show (us.set k _).length ≤ c7; rw [List.length_set]; omega, (H.out.bel.setCell (p := ⟨g, k * 3 + 1, none⟩) hg1 _).setCell (p := ⟨g, k * 3 + 2, none⟩) hg1 _⟩
        · have hw' : (u.who != who) = true := by simpa using hwh
          by_cases hold : now - u.seen < 5
          · have hold' : decide (now - u.seen < 5) = true := by simpa using hold
            have HE : Shut (RR = (us, false)) := ⟨by rw [HQ2.out, if_pos ⟨hwh, hold⟩]⟩
            clear hwh
            go_wp2_with fail
            go_ret2
            rw [HE.out]
            have hs := H.out.is _ (List.mem_cons_self ..)
            exact ⟨_, c7, by rw [HN.out]; rfl, frw_wide9 hs.1 hs.2.2.1 hs.2.2.2, by have := HN.out; show us.length ≤ c7; omega, H.out.bel⟩
          · have hold' : decide (now - u.seen < 5) = false := by simpa using hold
            have HE : Shut (RR = (us.set k ⟨u.path, who, now⟩, true)) := ⟨by rw [HQ2.out, if_neg (fun h => hold h.2)]⟩
            clear hwh
            go_wp2_with fail
            go_ret2
            rw [HE.out]
            have q1 := (HWC.out.2.2.set (k * 3 + 1) (.int .i64 who) (by rw [lsS_len]; omega)).set (k * 3 + 2) (.int .i64 now) (by rw [List.length_set, lsS_len]; omega)
            rw [lss_both us k hku who now, ← HU.out] at q1
            have hs := H.out.is _ (List.mem_cons_self ..)
            have hg1 := HWC.out.1
            have hg2 := HWC.out.2.1
            have hle : hi ≤ _ := hs.2.2.2
            exact ⟨some ⟨g, 0, none⟩, c7, by show _ = Ending.returned (.tuple #[.slice _ (us.set k _).length c7, .bool true]); rw [List.length_set, ← HN.out]; rfl, .inr ⟨g, rfl, hg1, by simp [World.setCell]; omega, q1⟩, by have := HN.out; show (us.set k _).length ≤ c7; rw [List.length_set]; omega, (H.out.bel.setCell (p := ⟨g, k * 3 + 1, none⟩) hg1 _).setCell (p := ⟨g, k * 3 + 2, none⟩) hg1 _⟩
    · obtain rfl : n = k := by omega
      replace HQ : Shut (RR = if us.length = 8 then (us, false) else (lsLow us p ++ [(⟨p, who, now⟩ : LsM)] ++ lsHigh us p, true)) := ⟨by rw [HQ.out, lsIdx_none fun j hj => HG.out j hj (by have := HN.out; omega), if_neg (Nat.lt_irrefl _)]⟩
      by_cases h8 : n = 8
      · have h8' : ((n : Int) == 8) = true := by simp; omega
        have HE : Shut (RR = (us, false)) := ⟨by rw [HQ.out, if_pos (by rw [← HN.out]; exact h8)]⟩
        clear h8
        go_wp2_with fail
        go_ret2
        rw [HE.out]
        have hs := H.out.is _ (List.mem_cons_self ..)
        exact ⟨_, c7, by rw [HN.out]; rfl, frw_wide9 hs.1 hs.2.2.1 hs.2.2.2, by have := HN.out; show us.length ≤ c7; omega, H.out.bel⟩
      · have h8' : ((n : Int) == 8) = false := by simp; omega
        have HE : Shut (RR = (lsLow us p ++ [(⟨p, who, now⟩ : LsM)] ++ lsHigh us p, true)) := ⟨by rw [HQ.out, if_neg (by rw [← HN.out]; exact h8)]⟩
        have HOLD := Shut.mk (OwS.new (ty := 35) (sz := 3) H.out.tail)
        clear h8 HQ
        go_wp2_with fail
        go_loopw [12, 13] (fun v9 i9 wr => ∃ (k m : Nat) (L : List LsM), i9 = .int .i64 k ∧ k ≤ n ∧ m ≤ k ∧ Shut (L = ((us.take k).filter (fun f => lt9 f.path p)) ∧ m = L.length) ∧ Shut (OwS w wr [] 35 3 v9 m (lsS L))) (fun _ i9 _ => n - (intOf i9).toNat)
        case atStart => exact ⟨0, 0, [], rfl, Nat.zero_le _, Nat.le_refl _, ⟨by simp⟩, HOLD⟩
        case round =>
          clear HOLD
          obtain ⟨k, m, L, rfl, hk, hm, HL, HW⟩ := hrel
          obtain ⟨av, cv, rfl⟩ := own_row_slice HW.out.own
          by_cases hlt : k < n
          · have hku : k < us.length := by rw [← HN.out]; exact hlt
            obtain ⟨b, off, x, rfl, hx, lb, hc⟩ := ls_at HR.out HW.out.sl.bel hku
            obtain ⟨d0, d1, d2⟩ := hc wr (Below.refl _ _)
            have k0 : (0 : Int) ≤ (k : Int) := by omega
            have k1 : (k : Int) < (n : Int) := by omega
            have lbw : b < wr.heap.size := Nat.lt_of_lt_of_le lb HW.out.sl.bel.size
            have HNX : Shut ((us.take (k + 1)).filter (fun f => lt9 f.path p) = (us.take k).filter (fun f => lt9 f.path p) ++ if lt9 x.path p = true then [x] else []) := ⟨by rw [hx]; exact filter_take _ us k hku⟩
            have HXX := Shut.mk hx
            clear hc hx
            cases hq : lt9 x.path p with
            | false =>
              have hq' : Op.bytesLess x.path.toList p.toList = false := hq
              rw [hq] at HNX
              go_wp2_with fail
              go_roundw
              case rel => exact ⟨k + 1, m, L, by go_num, by omega, by omega, ⟨by rw [HNX.out]; simpa using HL.out⟩, HW⟩
              case measure => simp [intOf]; omega
            | true =>
              have hq' : Op.bytesLess x.path.toList p.toList = true := hq
              rw [hq] at HNX
              have hown := HW.out.own
              have hbs := HW.out.sl.bel.size
              go_wp2_with (at_builtin; refine wpList_append_own_at _ rfl _ _ 24 rfl w.heap.size 35 i0 _ 3 32 Try.underlying24 hin hz0 hz1 hz2 rfl (by decide) _ _ _ rfl (hown.alloc _) ⟨wr.heap.size, 0, none⟩ 1 1 [.string x.path, .int .i64 x.who, .int .i64 x.seen] rfl rfl (World.news_of_block (cs := #[.string x.path, .int .i64 x.who, .int .i64 x.seen]) (t := 35) (fr := (0, 0)) (heap_alloc_new wr _)) ?c25 ?c35 ?c45 ?c55 ?_)
              case c25 => simp [Value.oneCell']
              case c35 => unfold maxLen; omega
              case c45 => omega
              case c55 => first | omega | (simp; omega)
              intro v5 w5 ho hg _ hat
              have HL5 := Shut.mk (HW.out.more ((Below.refl _ _).alloc (Nat.le_refl _) _) ho hg (by simpa using hat))
              clear ho hg hat hown hbs
              go_wp2_with fail
              go_roundw
              case rel => exact ⟨k + 1, m + 1, L ++ [x], by go_num, by omega, by omega, ⟨⟨by rw [HNX.out]; simp only [if_true]; rw [← HL.out.1], by rw [List.length_append, ← HL.out.2]; rfl⟩⟩, ⟨by rw [lss_snoc]; exact HL5.out⟩⟩
              case measure => simp [intOf]; omega
          · obtain rfl : n = k := by omega
            have HLN : Shut (L = (us.filter (fun f => lt9 f.path p)) ∧ m = L.length) := ⟨by have := HL.out; rwa [List.take_of_length_le (by have := HN.out; omega)] at this⟩
            clear HL hlt
            have HL1N := HLN
            clear HLN
            obtain ⟨L1, hL1⟩ : ∃ q, q = L ++ [(⟨p, who, now⟩ : LsM)] := ⟨_, rfl⟩
            obtain ⟨m1, hm1⟩ : ∃ q, q = m + 1 := ⟨_, rfl⟩
            have hown := HW.out.own
            have hbs := HW.out.sl.bel.size
            go_wp2_with (at_builtin; refine wpList_append_own_at _ rfl _ _ 24 rfl w.heap.size 35 i0 _ 3 32 Try.underlying24 hin hz0 hz1 hz2 rfl (by decide) _ _ _ rfl (hown.alloc _) ⟨wr.heap.size, 0, none⟩ 1 1 [.string p, .int .i64 who, .int .i64 now] rfl rfl (World.news_of_block (cs := #[.string p, .int .i64 who, .int .i64 now]) (t := 35) (fr := (0, 0)) (heap_alloc_new wr _)) ?c27 ?c37 ?c47 ?c57 ?_)
            case c27 => simp [Value.oneCell']
            case c37 => unfold maxLen; omega
            case c47 => omega
            case c57 => first | omega | (simp; omega)
            intro v7 w7 ho hg _ hat
            have HL7 := Shut.mk (HW.out.more ((Below.refl _ _).alloc (Nat.le_refl _) _) ho hg (by simpa using hat))
            clear ho hg hat hown hbs
            replace HL1N : Shut (L1 = us.filter (fun f => lt9 f.path p) ++ [(⟨p, who, now⟩ : LsM)] ∧ m1 = L1.length) := ⟨by rw [hL1, hm1, List.length_append, ← HL1N.out.2, HL1N.out.1]; exact ⟨rfl, rfl⟩⟩
            have HOLD : Shut (OwS w w7 [] 35 3 v7 m1 (lsS L1)) := ⟨by rw [hL1, hm1, lss_snoc]; exact HL7.out⟩
            have hm9 : m1 ≤ n + 1 := by omega
            clear hL1 hm1 HL7 HW hm
            go_wp2_with fail
            go_loopw [12, 14] (fun v9 i9 wr => ∃ (k m : Nat) (L : List LsM), i9 = .int .i64 k ∧ k ≤ n ∧ m ≤ m1 + k ∧ Shut (L = L1 ++ ((us.take k).filter (fun f => !(lt9 f.path p) && !(f.path.toList == p.toList))) ∧ m = L.length) ∧ Shut (OwS w wr [] 35 3 v9 m (lsS L))) (fun _ i9 _ => n - (intOf i9).toNat)
            case atStart => exact ⟨0, m1, L1, rfl, Nat.zero_le _, Nat.le_refl _, ⟨by simpa using HL1N.out.2⟩, HOLD⟩
            case round =>
              clear HOLD
              obtain ⟨k, m, L, rfl, hk, hm, HL, HW⟩ := hrel
              obtain ⟨av, cv, rfl⟩ := own_row_slice HW.out.own
              by_cases hlt : k < n
              · have hku : k < us.length := by rw [← HN.out]; exact hlt
                obtain ⟨b, off, x, rfl, hx, lb, hc⟩ := ls_at HR.out HW.out.sl.bel hku
                obtain ⟨d0, d1, d2⟩ := hc wr (Below.refl _ _)
                have k0 : (0 : Int) ≤ (k : Int) := by omega
                have k1 : (k : Int) < (n : Int) := by omega
                have lbw : b < wr.heap.size := Nat.lt_of_lt_of_le lb HW.out.sl.bel.size
                have HNX : Shut ((us.take (k + 1)).filter (fun f => !(lt9 f.path p) && !(f.path.toList == p.toList)) = (us.take k).filter (fun f => !(lt9 f.path p) && !(f.path.toList == p.toList)) ++ if (!(lt9 x.path p) && !(x.path.toList == p.toList)) = true then [x] else []) := ⟨by rw [hx]; exact filter_take _ us k hku⟩
                have HXX := Shut.mk hx
                clear hc hx
                have hq9 : (x.path.toList == p.toList) = false := by rw [HXX.out]; exact HG.out k hku (by omega)
                cases hq : (!(lt9 x.path p) && !(x.path.toList == p.toList)) with
                | false =>
                  have hq' : Op.bytesLess x.path.toList p.toList = true := by rw [hq9] at hq; simpa using hq
                  rw [hq] at HNX
                  go_wp2_with fail
                  go_roundw
                  case rel => exact ⟨k + 1, m, L, by go_num, by omega, by omega, ⟨by rw [HNX.out]; simpa using HL.out⟩, HW⟩
                  case measure => simp [intOf]; omega
                | true =>
                  have hq' : Op.bytesLess x.path.toList p.toList = false := by rw [hq9] at hq; simpa using hq
                  rw [hq] at HNX
                  have hown := HW.out.own
                  have hbs := HW.out.sl.bel.size
                  go_wp2_with (at_builtin; refine wpList_append_own_at _ rfl _ _ 24 rfl w.heap.size 35 i0 _ 3 32 Try.underlying24 hin hz0 hz1 hz2 rfl (by decide) _ _ _ rfl (hown.alloc _) ⟨wr.heap.size, 0, none⟩ 1 1 [.string x.path, .int .i64 x.who, .int .i64 x.seen] rfl rfl (World.news_of_block (cs := #[.string x.path, .int .i64 x.who, .int .i64 x.seen]) (t := 35) (fr := (0, 0)) (heap_alloc_new wr _)) ?c26 ?c36 ?c46 ?c56 ?_)
                  case c26 => simp [Value.oneCell']
                  case c36 => unfold maxLen; omega
                  case c46 => omega
                  case c56 => first | omega | (simp; omega)
                  intro v6 w6 ho hg _ hat
                  have HL6 := Shut.mk (HW.out.more ((Below.refl _ _).alloc (Nat.le_refl _) _) ho hg (by simpa using hat))
                  clear ho hg hat hown hbs
                  go_wp2_with fail
                  go_roundw
                  case rel => exact ⟨k + 1, m + 1, L ++ [x], by go_num, by omega, by omega, ⟨⟨by rw [HNX.out]; simp only [if_true]; rw [← List.append_assoc, ← HL.out.1], by rw [List.length_append, ← HL.out.2]; rfl⟩⟩, ⟨by rw [lss_snoc]; exact HL6.out⟩⟩
                  case measure => simp [intOf]; omega
              · obtain rfl : n = k := by omega
                have HLN : Shut (L = L1 ++ (us.filter (fun f => !(lt9 f.path p) && !(f.path.toList == p.toList))) ∧ m = L.length) := ⟨by have := HL.out; rwa [List.take_of_length_le (by have := HN.out; omega)] at this⟩
                clear HL hlt
                obtain ⟨a8, c8, e8, hf8, hc8⟩ := HW.out.frw
                obtain ⟨rfl, rfl⟩ : av = a8 ∧ cv = c8 := by simpa using e8
                have HF8 := Shut.mk hf8
                have HPE : Shut (L = lsLow us p ++ [(⟨p, who, now⟩ : LsM)] ++ lsHigh us p) := ⟨by rw [HLN.out.1, HL1N.out.1]; rfl⟩
                clear hf8 e8
                go_wp2_with fail
                go_ret2
                rw [HE.out, ← HPE.out]
                exact ⟨av, cv, by show _ = Ending.returned (.tuple #[.slice _ L.length cv, .bool true]); rw [← HLN.out.2]; rfl, HF8.out, by show L.length ≤ cv; rw [← HLN.out.2]; exact hc8, HW.out.sl.bel⟩
end Go.Proofs.Ytcnjjbgilpgceaa
/- DrLe: The draw of leases: right ones, few, of short paths that have no l. -/
namespace Go.Proofs.Ytcnjjbgilpgceaa
set_option maxRecDepth 100000
open Go.RowKit BigFrame
attribute [local go_sem ↓] Go.wp_at_zero Go.wp_at_succ

def chP (x : Nat) : ByteArray := if x = 0 then ⟨#[97]⟩ else if x = 1 then ⟨#[98]⟩ else ⟨#[99]⟩
def pth (l : List Nat) : ByteArray := l.foldl (fun t x => t ++ ⟨#[47]⟩ ++ chP x) ⟨#[]⟩
theorem pth_snoc (l : List Nat) (x : Nat) : pth (l ++ [x]) = pth l ++ ⟨#[47]⟩ ++ chP x := by unfold pth; rw [List.foldl_append]; rfl
def PthOk (t : ByteArray) : Prop := named t = true ∧ noL t = true ∧ t.size ≤ 12
theorem pth_all : ∀ x : Fin 3, ∀ y : Fin 3, ∀ z : Fin 3, (named (pth [x.val]) && noL (pth [x.val]) && decide ((pth [x.val]).size ≤ 12)) && (named (pth [x.val, y.val]) && noL (pth [x.val, y.val]) && decide ((pth [x.val, y.val]).size ≤ 12)) && (named (pth [x.val, y.val, z.val]) && noL (pth [x.val, y.val, z.val]) && decide ((pth [x.val, y.val, z.val]).size ≤ 12)) = true := by decide +kernel
theorem pth_ok {l : List Nat} (h1 : 1 ≤ l.length) (h3 : l.length ≤ 3) (h : ∀ x ∈ l, x < 3) : PthOk (pth l) := by
  match l, h1, h3 with
  | [x], _, _ =>
    have := pth_all ⟨x, h x (by simp)⟩ 0 0
    simp only [Bool.and_eq_true, decide_eq_true_eq] at this
    exact ⟨this.1.1.1.1, this.1.1.1.2, this.1.1.2⟩
  | [x, y], _, _ =>
    have := pth_all ⟨x, h x (by simp)⟩ ⟨y, h y (by simp)⟩ 0
    simp only [Bool.and_eq_true, decide_eq_true_eq] at this
    exact ⟨this.1.2.1.1, this.1.2.1.2, this.1.2.2⟩
  | [x, y, z], _, _ =>
    have := pth_all ⟨x, h x (by simp)⟩ ⟨y, h y (by simp)⟩ ⟨z, h z (by simp)⟩
    simp only [Bool.and_eq_true, decide_eq_true_eq] at this
    exact ⟨this.2.1.1, this.2.1.2, this.2.2⟩
theorem chP_size (x : Nat) : (chP x).size = 1 := by
  unfold chP
  split
  · rfl
  · split <;> rfl
theorem fold_size (l : List Nat) : ∀ t : ByteArray, (l.foldl (fun t x => t ++ ⟨#[47]⟩ ++ chP x) t).size = t.size + 2 * l.length := by
  induction l with
  | nil => intro t; rfl
  | cons x l ih =>
    intro t
    rw [List.foldl_cons, ih, ByteArray.size_append, ByteArray.size_append, chP_size, List.length_cons]
    have h1 : (⟨#[47]⟩ : ByteArray).size = 1 := rfl
    omega
theorem pth_size {l : List Nat} : (pth l).size = 2 * l.length := by
  have := fold_size l ⟨#[]⟩
  unfold pth
  rw [this]
  have h1 : (⟨#[]⟩ : ByteArray).size = 0 := rfl
  omega
def NPost (w : World) (g B : Nat) (a : Option Addr) (len cap : Nat) (e : Ending) (w' : World) : Prop :=
  ∃ t : ByteArray, e = .returned (.string t) ∧ PthOk t ∧ Cur w' g B a len cap ∧ w.grownBy w' (some g)
set_option maxRecDepth 100000 in
set_option maxHeartbeats 1000000 in
theorem l09Path_named (w : World) (g B : Nat) (a : Option Addr) (len cap : Nat) (hc : Cur w g B a len cap) :
    Calls Try.prog 54 #[.pointer (some ⟨g, 0, none⟩)] w fun e w' => NPost w g B a len cap e w' := by
  have HC := Shut.mk hc
  have hgw := hc.2.1
  clear hc
  go_enter Try.func54, Try.ntmps54
  go_wp2_with fail
  go_loopw [3, 4] (fun s i wr => ∃ (k : Nat) (t : ByteArray), s = .string t ∧ i = .int .i64 k ∧ k ≤ 3 ∧ Shut (∃ l : List Nat, l.length = k ∧ (∀ x ∈ l, x < 3) ∧ t = pth l) ∧ Shut (Cur wr g B a len cap) ∧ Shut (w.grownBy wr (some g))) (fun _ i _ => 3 - (intOf i).toNat)
  case atStart => exact ⟨0, _, rfl, rfl, by omega, ⟨[], rfl, by simp, rfl⟩, HC, ⟨gb_below (Below.refl _ _)⟩⟩
  case round =>
    clear HC
    obtain ⟨k, t, rfl, rfl, hk, HT, hcur, hgr⟩ := hrel
    have k0 : (0 : Int) ≤ (k : Int) := by omega
    have htz : t.size ≤ 6 := by
      obtain ⟨l, h1, h2, h3⟩ := HT.out
      rw [h3]
      have := pth_size (l := l)
      omega
    go_wp2_with fail
    refine (l01Below_any _ g B a len cap 3 (by omega) hcur.out).mono ?_
    rintro e w1 ⟨x, rfl, x0, x1, hc1, hg1⟩
    obtain ⟨m, rfl⟩ := Int.eq_ofNat_of_zero_le x0
    have HC1 := Shut.mk hc1
    have HG1 := Shut.mk (gb_two hgr.out hg1)
    have hg1w := hc1.2.1
    clear hc1 hg1 hcur hgr
    by_cases hlt : k < 1 + m
    · have hlt' : (k : Int) < 1 + (m : Int) := by omega
      have hlit : (#[.string ⟨#[97]⟩, .string ⟨#[98]⟩, .string ⟨#[99]⟩] : Array Value) = (List.map Value.string [⟨#[97]⟩, ⟨#[98]⟩, ⟨#[99]⟩]).toArray := rfl
      have HL := Shut.mk (new_texts w1 9 (fun y => ∃ x, x < 3 ∧ y = chP x) [⟨#[97]⟩, ⟨#[98]⟩, ⟨#[99]⟩] (by
        intro y hy
        simp only [List.mem_cons, List.not_mem_nil, or_false] at hy
        rcases hy with rfl | rfl | rfl
        · exact ⟨0, by omega, rfl⟩
        · exact ⟨1, by omega, rfl⟩
        · exact ⟨2, by omega, rfl⟩))
      rw [← hlit] at HL
      clear hlit
      go_wp2_with fail
      refine (l01Pick_in (fun y => ∃ x, x < 3 ∧ y = chP x) _ g B a len cap w1.heap.size 3 (by decide) (by decide) (by omega) HL.out (HC1.out.below ((Below.refl _ _).alloc (Nat.le_refl _) _))).mono ?_
      rintro e w2 ⟨y, rfl, hy, hc2, hg2⟩
      have HZ : Shut (∃ l : List Nat, l.length = k + 1 ∧ (∀ x ∈ l, x < 3) ∧ t ++ ⟨#[47]⟩ ++ y = pth l) := ⟨by
        obtain ⟨l, h1, h2, h3⟩ := HT.out
        obtain ⟨x, hx, e⟩ := hy
        refine ⟨l ++ [x], by rw [List.length_append, h1]; rfl, fun z hz => ?_, by rw [pth_snoc, h3, e]⟩
        rcases List.mem_append.1 hz with q | q
        · exact h2 z q
        · rw [List.mem_singleton.1 q]; exact hx⟩
      have hyz : y.size ≤ 1 := by
        obtain ⟨x, _, e⟩ := hy
        rw [e]
        exact Nat.le_of_eq (chP_size x)
      clear hy
      have HC2 := Shut.mk hc2
      have HG2 := Shut.mk (gb_two HG1.out (gb_two (gb_below ((Below.refl _ _).alloc (Nat.le_refl _) _)) hg2))
      clear hc2 hg2
      go_wp2_with fail
      go_roundw
      case rel => exact ⟨k + 1, _, rfl, by go_num, by omega, HZ, HC2, HG2⟩
      case measure => simp [intOf]; omega
    · have hlt' : ¬ (k : Int) < 1 + (m : Int) := by omega
      have HP : Shut (PthOk t) := ⟨by
        obtain ⟨l, h1, h2, h3⟩ := HT.out
        rw [h3]
        exact pth_ok (by omega) (by omega) h2⟩
      go_wp2_with fail
      go_ret
      exact ⟨t, rfl, HP.out, HC1.out, HG1.out⟩
/-- Leases that were drawn, in a row of their own beside a cursor. -/
theorem LGood.none : LGood [] 0 := ⟨rfl, Nat.le_refl _, fun f hf => by cases hf⟩
theorem lgood_more {L : List LsM} {m n : Nat} (h : LGood L m) (hn : m ≤ n) : LGood L n := ⟨h.ok, Nat.le_trans h.few hn, h.all⟩
set_option maxRecDepth 100000 in
set_option maxHeartbeats 2000000 in
theorem l16Leases_any {w0 W : World} {g B len cap : Nat} {a : Option Addr} (h : SD w0 W g B a len cap []) :
    Calls Try.prog 34 #[.pointer (some ⟨g, 0, none⟩)] W fun e W' => ∃ L b c lo hi, e = .returned (.slice b (L : List LsM).length c) ∧ LGood L 6 ∧ L.length ≤ c ∧ SD w0 W' g B a len cap [rwS b (lsS L) lo hi] := by
  have HS := Shut.mk (h.add (W' := W.alloc (.cells #[] 35)) (s := rwS (some ⟨W.heap.size, 0, none⟩) (lsS []) W.heap.size (W.heap.size + 1)) ((Below.refl _ _).alloc (Nat.le_refl _) _) (.inr ⟨W.heap.size, rfl, Nat.le_refl _, Nat.lt_succ_self _, by simp, fun i v hv => by simp [lsS] at hv⟩) (rwS.loc _ _ _ _) (Nat.le_refl _) (by simp))
  clear h
  go_enter Try.func34, Try.ntmps34
  go_wp2_with fail
  go_loopw [3, 4] (fun v3 i wr => ∃ (k n : Nat) (L : List LsM) (b : Option Addr) (c lo hi : Nat), v3 = .slice b n c ∧ i = .int .i64 k ∧ k ≤ 6 ∧ n ≤ c ∧ Shut (n = L.length) ∧ Shut (LGood L k) ∧ Shut (SD w0 wr g B a len cap [rwS b (lsS L) lo hi])) (fun _ i _ => 6 - (intOf i).toNat)
  case atStart => exact ⟨0, 0, [], _, _, _, _, rfl, rfl, by omega, Nat.le_refl _, ⟨rfl⟩, ⟨LGood.none⟩, HS⟩
  case round =>
    clear HS
    obtain ⟨k, n, L, b, c, lo, hi, rfl, rfl, hk, hnc, HN, HG, HD⟩ := hrel
    have k0 : (0 : Int) ≤ (k : Int) := by omega
    go_wp2_with fail
    refine (HD.out.pick 7 (by omega)).mono ?_
    rintro e w1 ⟨x, rfl, x0, x1, hd1⟩
    obtain ⟨m, rfl⟩ := Int.eq_ofNat_of_zero_le x0
    have HD1 := Shut.mk (HD.out.draw hd1)
    clear hd1 HD
    by_cases hlt : k < m
    · have hlt' : (k : Int) < (m : Int) := by omega
      go_wp2_with fail
      refine (l09Path_named _ g B a len cap HD1.out.cur).mono ?_
      rintro e w2 ⟨t, rfl, ht, hc2, hg2⟩
      have HD2 := Shut.mk (HD1.out.draw ⟨hg2, fun _ => hc2⟩)
      have HPT := Shut.mk ht
      clear ht hc2 hg2 HD1
      go_wp2_with fail
      refine (HD2.out.pick 3 (by omega)).mono ?_
      rintro e w3 ⟨y, rfl, y0, y1, hd3⟩
      have HD3 := Shut.mk (HD2.out.draw hd3)
      clear hd3 HD2
      have hy3 : y < 3 := by omega
      go_wp2_with fail
      refine (HD3.out.pick 20 (by omega)).mono ?_
      rintro e w4 ⟨z, rfl, z0, z1, hd4⟩
      have HD4 := Shut.mk (HD3.out.draw hd4)
      clear hd4 HD3
      have hz20 : z < 20 := by omega
      have HNX : Shut (LGood (takeX L t (1 + y) z).1 (k + 1)) := ⟨HG.out.take HPT.out.1 HPT.out.2.1 HPT.out.2.2 ⟨by omega, by omega⟩ ⟨by omega, by omega⟩⟩
      have HTL : Shut (∀ W, Below w4.heap.size w4 W → Calls Try.prog 25 #[.slice b n c, .string t, .int .i64 (1 + y), .int .i64 z] W fun e w' => LbPost (takeX L t (1 + y) z) W e w') := ⟨fun W hb => by
        rw [HN.out]
        exact specTakeLease L b c t (1 + y) z W ((show FRw _ _ _ _ _ from (HD4.out.below hb).sl.at 0 rfl).crow) (by have := HG.out.few; omega) (fun u hu => by have := (HG.out.all u hu).2.1; omega) (by have := HPT.out.2.2; omega)⟩
      generalize takeX L t (1 + y) z = RR at HNX HTL
      go_wp2_with fail
      refine (HTL.out _ (Below.refl _ _)).mono ?_
      rintro e w5 ⟨b5, c5, rfl, hF, hc5, hb⟩
      have HD5 := Shut.mk ((HD4.out.add (s := rwS b5 (lsS RR.1) w4.heap.size w5.heap.size) hb hF (rwS.loc _ _ _ _) (Nat.le_refl _) (Nat.le_refl _)).drop1)
      clear hF hb HD4 HTL
      obtain ⟨n5, hn5⟩ : ∃ q, q = RR.1.length := ⟨_, rfl⟩
      have HN5 := Shut.mk hn5
      rw [← hn5] at hc5 ⊢
      clear hn5
      go_wp2_with fail
      go_roundw
      case rel => exact ⟨k + 1, n5, RR.1, b5, c5, _, _, rfl, by go_num, by omega, hc5, HN5, HNX, HD5⟩
      case measure => simp [intOf]; omega
    · have hlt' : ¬ (k : Int) < (m : Int) := by omega
      go_wp2_with fail
      go_ret
      exact ⟨L, b, c, lo, hi, by rw [← HN.out]; rfl, lgood_more HG.out hk, by rw [← HN.out]; exact hnc, HD1.out⟩
def LeasesDrawn (w : World) (e : Ending) (w' : World) : Prop := ∃ (L : List LsM) (b : Option Addr) (c : Nat), e = .returned (.slice b L.length c) ∧ LGood L 6 ∧ L.length ≤ c ∧ FRw w' b (lsS L) w.heap.size w'.heap.size ∧ Below w.heap.size w w'
set_option maxRecDepth 100000 in
theorem drawLeases_any (w : World) (a : Option Addr) (len cap : Nat) (hc : CodeAt w w.heap.size a len) :
    Calls Try.prog 11 #[.slice a len cap] w fun e w' => LeasesDrawn w e w' := by
  have HC := Shut.mk hc
  clear hc
  go_enter Try.func11, Try.ntmps11
  go_wp2_with (first
    | (go_at_call 35; refine (l01New_any _ a len cap HC.out).mono ?_; rintro e w1 ⟨g, rfl, hg, hcur, hb1⟩; have HSD : Shut (SD w w1 g w.heap.size a len cap []) := ⟨⟨(SL.start w).below hb1, hcur, fun s hs => (by cases hs), hg, Nat.le_refl _⟩⟩; clear hg hcur hb1)
    | (go_at_call 34; refine (l16Leases_any HSD.out).mono ?_; rintro e w2 ⟨L, b, c, lo, hi, rfl, hgood, hlc, hsd⟩; have HG := Shut.mk hgood; have HL := Shut.mk hlc; have H2 := Shut.mk hsd.sl; clear hgood hlc hsd HSD))
  go_ret
  have hs := H2.out.is _ (List.mem_cons_self ..)
  exact ⟨L, b, c, rfl, HG.out, HL.out, frw_wide9 hs.1 hs.2.2.1 hs.2.2.2, H2.out.bel⟩
end Go.Proofs.Ytcnjjbgilpgceaa
/- PaI: The program's own NameOk: its text is gone through rune by rune. -/
namespace Go.Proofs.Ytcnjjbgilpgceaa
set_option maxRecDepth 100000
open Go.RowKit
open Go.PlainAid (bt)
attribute [local go_sem ↓] Go.wp_at_zero Go.wp_at_succ

theorem get_bt9 (s : ByteArray) (j : Nat) (h : j < s.size) : bt s j = ((s.get! j).toNat : Int) := by
  unfold bt
  rw [dif_pos h]
  simp [ByteArray.get!, getElem!_pos, h]
  rfl
/-- A rune that is no byte below 128 goes over bytes from 128 on alone, and not past the end. -/
theorem decode_far (s : ByteArray) (pos : Nat) (h : pos < s.size) (ha : 128 ≤ bt s pos) : pos + (Utf8.decode s pos).2 ≤ s.size ∧ (Utf8.decode s pos).2 ≤ 4 ∧ ∀ d, d < (Utf8.decode s pos).2 → 128 ≤ bt s (pos + d) := by
  have hg := fun d (q : pos + d < s.size) => get_bt9 s (pos + d) q
  have g0 := hg 0 (by omega)
  simp only [Nat.add_zero] at g0
  have g1 := hg 1
  have g2 := hg 2
  have g3 := hg 3
  clear hg
  have hn : ¬ (s.get! (pos + 0)).toNat < 128 := by simp only [Nat.add_zero]; omega
  simp only [Utf8.decode, hn, if_false]
  have hone : pos + 1 ≤ s.size ∧ 1 ≤ 4 ∧ ∀ d, d < 1 → 128 ≤ bt s (pos + d) := ⟨by omega, by omega, fun d hd => by
    have : d = 0 := by omega
    subst this; exact ha⟩
  split
  · rename_i q
    simp only [Bool.and_eq_true, decide_eq_true_eq, beq_iff_eq] at q
    split
    · refine ⟨by simp only; omega, by simp only; omega, fun d hd => ?_⟩
      have h1 := g1 q.2.1
      rcases (show d = 0 ∨ d = 1 from by simp only at hd; omega) with rfl | rfl
      · exact ha
      · rw [h1]; omega
    · exact hone
  · split
    · rename_i q
      simp only [Bool.and_eq_true, decide_eq_true_eq, beq_iff_eq] at q
      split
      · refine ⟨by simp only; omega, by simp only; omega, fun d hd => ?_⟩
        have h1 := g1 q.1.2.1
        have h2 := g2 q.2.1
        rcases (show d = 0 ∨ d = 1 ∨ d = 2 from by simp only at hd; omega) with rfl | rfl | rfl
        · exact ha
        · rw [h1]; omega
        · rw [h2]; omega
      · exact hone
    · split
      · rename_i q
        simp only [Bool.and_eq_true, decide_eq_true_eq, beq_iff_eq] at q
        split
        · refine ⟨by simp only; omega, by simp only; omega, fun d hd => ?_⟩
          have h1 := g1 q.1.1.2.1
          have h2 := g2 q.1.2.1
          have h3 := g3 q.2.1
          rcases (show d = 0 ∨ d = 1 ∨ d = 2 ∨ d = 3 from by simp only at hd; omega) with rfl | rfl | rfl | rfl
          · exact ha
          · rw [h1]; omega
          · rw [h2]; omega
          · rw [h3]; omega
        · exact hone
      · exact hone
theorem rune_low (s : ByteArray) (pos : Nat) (h : pos < s.size) (ha : bt s pos < 128) : ((Utf8.decode s pos).1 : Int) = bt s pos ∧ (Utf8.decode s pos).2 = 1 := by
  have e : bt s pos = ((s[pos]'h).toNat : Int) := by unfold bt; rw [dif_pos h]
  rw [decode_ascii s pos h (by omega), e]
  exact ⟨rfl, rfl⟩
theorem rune_high (s : ByteArray) (pos : Nat) (h : pos < s.size) (ha : 128 ≤ bt s pos) : (128 : Int) ≤ ((Utf8.decode s pos).1 : Int) ∧ 1 ≤ (Utf8.decode s pos).2 := by
  have e : bt s pos = ((s[pos]'h).toNat : Int) := by unfold bt; rw [dif_pos h]
  have := decode_high s pos h (by omega)
  omega
theorem implNameRune (r : Int) (b : Bool) (hb : b = true ↔ nameN r) (w : World) : Calls Try.prog 103 #[.int .i32 r] w fun e w' => e = .returned (.bool b) ∧ w' = w := by
  have HB := Shut.mk hb
  clear hb
  unfold nameN at HB
  by_cases c1 : 97 ≤ r
  · by_cases c2 : r ≤ 122
    · have hb : b = true := HB.out.2 (by omega)
      subst hb
      go_enter Try.func103, Try.ntmps103
      go_wp2_with fail
      go_ret
      exact ⟨rfl, rfl⟩
    · have c3 : 48 ≤ r := by omega
      have c4 : ¬ r ≤ 57 := by omega
      have hb : b = false := by cases b with | false => rfl | true => exact absurd (HB.out.1 rfl) (by omega)
      subst hb
      go_enter Try.func103, Try.ntmps103
      go_wp2_with fail
      go_ret
      exact ⟨rfl, rfl⟩
  · by_cases c3 : 48 ≤ r
    · by_cases c4 : r ≤ 57
      · have hb : b = true := HB.out.2 (by omega)
        subst hb
        go_enter Try.func103, Try.ntmps103
        go_wp2_with fail
        go_ret
        exact ⟨rfl, rfl⟩
      · have hb : b = false := by cases b with | false => rfl | true => exact absurd (HB.out.1 rfl) (by omega)
        subst hb
        go_enter Try.func103, Try.ntmps103
        go_wp2_with fail
        go_ret
        exact ⟨rfl, rfl⟩
    · have hb : b = false := by cases b with | false => rfl | true => exact absurd (HB.out.1 rfl) (by omega)
      subst hb
      go_enter Try.func103, Try.ntmps103
      go_wp2_with fail
      go_ret
      exact ⟨rfl, rfl⟩
theorem iter_below (w : World) (s : ByteArray) (pos : Nat) : Below w.heap.size w (w.iter s pos) := (Below.refl _ _).alloc (Nat.le_refl _) _
set_option maxRecDepth 100000 in
set_option maxHeartbeats 1000000 in
theorem implNameOk (s : ByteArray) (w : World) (hs : s.size ≤ 1048576) : Calls Try.prog 101 #[.string s] w fun e w' => e = .returned (.bool (nameB s)) ∧ Below w.heap.size w w' := by
  obtain ⟨r, hre⟩ : ∃ r, r = nameB s := ⟨_, rfl⟩
  have HRE := Shut.mk hre
  rw [← hre]
  clear hre
  have hnot (q : ¬ (1 ≤ s.size ∧ s.size ≤ 8)) : r = false := by
    rw [HRE.out]
    cases e : nameB s with
    | false => rfl
    | true => exact absurd ((nameB_iff s).1 e).2 q
  by_cases h1 : s.size < 1
  · have hr := hnot (by omega)
    subst hr
    have h1' : (s.size : Int) < 1 := by omega
    go_enter Try.func101, Try.ntmps101
    go_wp2_with fail
    go_ret
    exact ⟨rfl, Below.refl _ _⟩
  have h1' : ¬ (s.size : Int) < 1 := by omega
  by_cases h8 : 8 < s.size
  · have hr := hnot (by omega)
    subst hr
    have h8' : (8 : Int) < (s.size : Int) := by omega
    go_enter Try.func101, Try.ntmps101
    go_wp2_with fail
    go_ret
    exact ⟨rfl, Below.refl _ _⟩
  have h8' : ¬ (8 : Int) < (s.size : Int) := by omega
  clear hnot
  go_enter Try.func101, Try.ntmps101
  go_wp2_with fail
  go_loopw [2] (fun v wr => ∃ (pos : Nat), v = .bool false ∧ wr = w.iter s pos ∧ pos ≤ s.size ∧ Shut (∀ j, j < pos → nameN (bt s j))) (fun _ wr => s.size - wr.iterPos w.heap.size)
  case atStart => exact ⟨0, rfl, rfl, Nat.zero_le _, ⟨fun j hj => by omega⟩⟩
  case round =>
    obtain ⟨pos, rfl, rfl, hp, hall⟩ := hrel
    by_cases hlt : pos < s.size
    · have hnx : ∀ ty, (Instr.next (.pointer (some ⟨w.heap.size, 0, none⟩)) true ty).run Try.prog (w.iter s pos) = _ := fun ty => run_next_any w s pos ty hlt
      have hlow := rune_low s pos hlt
      have hhigh := rune_high s pos hlt
      generalize Utf8.decode s pos = D at *
      obtain ⟨rn, wd⟩ := D
      simp only at hlow hhigh hnx
      by_cases hn : nameN (bt s pos)
      · have hl : bt s pos < 128 := by unfold nameN at hn; omega
        obtain ⟨e1, rfl⟩ := hlow hl
        have HN := Shut.mk (fun W => implNameRune (rn : Int) true (by rw [e1]; exact ⟨fun _ => hn, fun _ => rfl⟩) W)
        have HA : Shut (∀ j, j < pos + 1 → nameN (bt s j)) := ⟨fun j hj => by
          by_cases e : j = pos
          · subst e; exact hn
          · exact hall.out j (by omega)⟩
        clear hn hlow hhigh e1 hl hall
        go_wp2_with fail
        refine (HN.out _).mono ?_
        rintro e w1 ⟨rfl, hw⟩
        subst hw
        go_wp2_with fail
        go_roundw
        case rel => exact ⟨pos + 1, rfl, rfl, by omega, HA⟩
        case measure => simp; omega
      · have hr : r = false := HRE.out.trans (nameB_no hlt hn)
        have HN := Shut.mk (fun W => implNameRune (rn : Int) false (by
          refine ⟨fun q => (Bool.noConfusion q), fun q => ?_⟩
          exfalso
          by_cases hl : bt s pos < 128
          · rw [(hlow hl).1] at q; exact hn q
          · have := (hhigh (by omega)).1
            unfold nameN at q
            omega) W)
        subst hr
        clear hn hlow hhigh hall
        go_wp2_with fail
        refine (HN.out _).mono ?_
        rintro e w1 ⟨rfl, hw⟩
        subst hw
        go_wp2_with fail
        go_ret
        exact ⟨rfl, iter_below _ _ _⟩
    · have hnx : ∀ ty, (Instr.next (.pointer (some ⟨w.heap.size, 0, none⟩)) true ty).run Try.prog (w.iter s pos) = _ := fun ty => run_next_end w s pos ty hlt
      have hr : r = true := HRE.out.trans ((nameB_iff s).2 ⟨fun j hj => hall.out j (by omega), by omega, by omega⟩)
      subst hr
      go_wp2_with fail
      go_ret
      exact ⟨rfl, iter_below _ _ _⟩
end Go.Proofs.Ytcnjjbgilpgceaa
/- PaJ: The program's own way through a path: what lies between slashes. -/
namespace Go.Proofs.Ytcnjjbgilpgceaa
set_option maxRecDepth 100000
open Go.RowKit
open Go.PlainAid (bt)
attribute [local go_sem ↓] Go.wp_at_zero Go.wp_at_succ

/-- Where the way through a text stands. -/
structure BwRel (p : ByteArray) (i bg : Nat) (done : List ByteArray) : Prop where
  le : bg ≤ i
  clean : ∀ j, bg ≤ j → j < i → bt p j ≠ 47
  sofar : (segs (lb p)).map ba = done ++ (segs ((lb p).drop bg)).map ba
theorem BwRel.start {p : ByteArray} : BwRel p 0 0 [] := ⟨Nat.le_refl _, fun j h1 h2 => by omega, rfl⟩
theorem BwRel.step {p : ByteArray} {i bg wd : Nat} {done : List ByteArray} (h : BwRel p i bg done) (hc : ∀ d, d < wd → bt p (i + d) ≠ 47) : BwRel p (i + wd) bg done :=
  ⟨by have := h.le; omega, fun j h1 h2 => by
    by_cases e : j < i
    · exact h.clean j h1 e
    · have := hc (j - i) (by omega)
      rwa [show i + (j - i) = j from by omega] at this, h.sofar⟩
theorem BwRel.cut {p : ByteArray} {i bg : Nat} {done : List ByteArray} (h : BwRel p i bg done) (hi : i < p.size) (hc : bt p i = 47) : BwRel p (i + 1) (i + 1) (done ++ [p.extract bg i]) := by
  refine ⟨Nat.le_refl _, fun j h1 h2 => by omega, ?_⟩
  have hl : (lb p).length = p.size := rfl
  have e : (lb p).drop bg = ((lb p).drop bg).take (i - bg) ++ 47 :: (lb p).drop (i + 1) := by
    have h1 : ((lb p).drop bg).drop (i - bg) = 47 :: (lb p).drop (i + 1) := by
      rw [List.drop_drop, show bg + (i - bg) = i from by have := h.le; omega, List.drop_eq_getElem_cons (by omega)]
      congr 1
      have := bt_at hi
      rw [hc] at this
      have h2 : ((lb p)[i]'(by omega)).toNat = 47 := by omega
      exact UInt8.toNat_inj.1 h2
    rw [← h1, List.take_append_drop]
  rw [h.sofar, e, segs_cut _ _ (clean_list (by omega) h.clean), List.map_cons, List.append_assoc]
  congr 1
  rw [← ext_list, ba_lb]; rfl
theorem BwRel.fin {p : ByteArray} {i bg : Nat} {done : List ByteArray} (h : BwRel p i bg done) (hi : i = p.size) : (segs (lb p)).map ba = done ++ [p.extract bg p.size] := by
  have hl : (lb p).length = p.size := rfl
  subst hi
  have e : (lb p).drop bg = ((lb p).drop bg).take (p.size - bg) := by rw [List.take_of_length_le (by rw [List.length_drop]; omega)]
  rw [h.sofar, e, segs_none _ (clean_list (by omega) h.clean), List.map_cons, List.map_nil, ← ext_list, ba_lb]
theorem slice_from (s : ByteArray) (a : Nat) (h : a ≤ s.size) (w : World) : (Instr.slice 9 (.string s) (some (.int .i64 a)) none none).run Try.prog w = .ok (.string (s.extract a s.size)) w := by
  rw [run_slice_string_from_if w 9 s .i64 a Try.underlying9, if_pos ⟨by omega, by omega⟩]
  rfl
theorem own_iter9 {w : World} {B e size n : Nat} {v : Value} {xs : List Value} {k : Nat} {s : ByteArray} {pos : Nat} (h : w.ownsRow B e size v n xs) (hk : w.heap[k]? = some (.stringIter s pos)) (pos' : Nat) : (w.iterAt k s pos').ownsRow B e size v n xs := by
  refine ⟨h.1, h.2.imp id fun ⟨g, cap, cur, hv, hb, hg, rest⟩ => ⟨g, cap, cur, hv, hb, ?_, rest⟩⟩
  rw [Lib.iterAt_other _ _ _ _ _ (fun e => by subst e; rw [hk] at hg; cases hg)]
  exact hg
theorem own_ne9 {w : World} {B e size n : Nat} {v : Value} {xs : List Value} {k : Nat} {s : ByteArray} {pos : Nat} (h : w.ownsRow B e size v n xs) (hk : w.heap[k]? = some (.stringIter s pos)) : some k ≠ v.ownBlock := by
  rcases h.2 with ⟨rfl, _⟩ | ⟨g, cap, cur, rfl, hb, hg, rest⟩
  · exact fun e => nomatch e
  · intro e
    cases e
    rw [hk] at hg
    cases hg
set_option maxRecDepth 100000 in
set_option maxHeartbeats 2000000 in
theorem implBetween (p : ByteArray) (w : World) (hs : p.size ≤ 1048576) : Calls Try.prog 100 #[.string p] w fun e w' => ∃ v, e = .returned v ∧ w'.ownsRow w.heap.size 9 1 v (segs (lb p)).length (tv ((segs (lb p)).map ba)) ∧ Below w.heap.size w w' := by
  obtain ⟨i0, hi, hz0, hz1, hz2⟩ := info_parts infoTextG
  have hb := Go.PlainAid.get_bt p
  go_enter Try.func100, Try.ntmps100
  go_wp2_with fail
  go_loopw [3, 4] (fun v bg wr => ∃ (pos g : Nat) (done : List ByteArray) (vv : Value), vv = v ∧ bg = .int .i64 g ∧ wr.heap[w.heap.size]? = some (.stringIter p pos) ∧ pos ≤ p.size ∧ g ≤ pos ∧ done.length ≤ pos ∧ Shut (BwRel p pos g done) ∧ Shut (wr.ownsRow w.heap.size 9 1 vv done.length (tv done)) ∧ Shut (Below w.heap.size w wr)) (fun _ _ wr => p.size - wr.iterPos w.heap.size)
  case atStart => exact ⟨0, 0, [], _, rfl, rfl, World.iter_heap _ _ _, Nat.zero_le _, Nat.le_refl _, by simp, ⟨BwRel.start⟩, ⟨⟨rfl, .inl ⟨rfl, rfl⟩⟩⟩, ⟨iter_below _ _ _⟩⟩
  case round =>
    obtain ⟨pos, g, done, v, rfl, rfl, hit, hp, hg, hd, hrl, hown, hbl⟩ := hrel
    have hB := hbl.out.size
    have hB1 : w.heap.size < wr.heap.size := (Array.getElem?_eq_some_iff.1 hit).1
    by_cases hlt : pos < p.size
    · have hlow := rune_low p pos hlt
      have hhigh := rune_high p pos hlt
      have hfar := decode_far p pos hlt
      obtain ⟨rn, wd, hD⟩ : ∃ rn wd, Utf8.decode p pos = (rn, wd) := ⟨_, _, rfl⟩
      have hnx : ∀ ty, (Instr.next (.pointer (some ⟨w.heap.size, 0, none⟩)) true ty).run Try.prog wr = _ := fun ty => Lib.run_next_any_at wr w.heap.size p pos ty hit hlt
      rw [hD] at hlow hhigh hfar hnx
      simp only at hlow hhigh hfar hnx
      generalize (rn : Int) = R at hlow hhigh hnx
      have hitp := iterPos_of hit
      have hit1 := Lib.iterAt_heap wr w.heap.size p pos (pos + wd) hit
      have hown1 := own_iter9 hown.out hit (pos + wd)
      have hbl1 := Lib.below_iterAt hbl.out (Nat.le_refl _) p (pos + wd)
      have hsz1 : w.heap.size < (wr.iterAt w.heap.size p (pos + wd)).heap.size := by rw [Lib.iterAt_size]; exact hB1
      generalize wr.iterAt w.heap.size p (pos + wd) = W1 at *
      clear hD hbl hown hit
      by_cases hc : bt p pos = 47
      · obtain ⟨e1, rfl⟩ := hlow (by omega)
        have hrn : R = 47 := by omega
        have hrn' : (R == 47) = true := by rw [hrn]; rfl
        have HR := Shut.mk (hrl.out.cut hlt hc)
        have hsl := slice_str p g pos hg (by omega)
        have hne := own_ne9 hown1 hit1
        have HB1 := Shut.mk hbl1
        generalize p.extract g pos = x at *
        clear hlow hhigh hfar hrl hc e1 hrn hbl1
        go_wp2_with (at_builtin; refine wpList_append_own _ rfl _ _ 32 rfl w.heap.size 9 i0 (.string ⟨#[]⟩) 1 16 Try.underlying32 hi hz0 hz1 hz2 rfl (by decide) _ _ _ rfl (hown1.alloc _) ⟨W1.heap.size, 0, none⟩ 1 1 [.string x] rfl rfl (cell_one_new _ _ _) ?c2 ?c3 ?c4 ?c5 ?_)
        case c2 => first | rfl | (intro u hu; simp at hu; subst hu; rfl)
        case c3 => unfold maxLen; omega
        case c4 => omega
        case c5 => first | omega | (simp; omega)
        intro v' w4 hown' hgrow _
        rw [tv_snoc] at hown'
        have Q1 : Shut (w4.ownsRow w.heap.size 9 1 v' (done ++ [x]).length (tv (done ++ [x]))) := ⟨by rw [List.length_append, List.length_singleton]; exact hown'⟩
        have Q2 := Shut.mk ((HB1.out.alloc (by omega) (.cells #[.string x] 9)).grown hgrow (by simp; omega) (fun j hj => (hown1.lt j hj).1))
        have hit4 : w4.heap[w.heap.size]? = some (.stringIter p (pos + 1)) := by
          rw [hgrow.block _ (by simp; omega) hne, Below.heap_alloc _ _ _ (by omega)]
          exact hit1
        clear hown' hgrow hown1 HB1
        go_wp2_with fail
        go_roundw
        case rel => exact ⟨pos + 1, pos + 1, _, v', rfl, by go_num, hit4, by omega, Nat.le_refl _, by rw [List.length_append, List.length_singleton]; omega, HR, Q1, Q2⟩
        case measure => rw [hitp, iterPos_of hit4]; omega
      · have hrn : ¬ R = 47 ∧ pos + wd ≤ p.size ∧ 1 ≤ wd ∧ ∀ d, d < wd → bt p (pos + d) ≠ 47 := by
          by_cases hl : bt p pos < 128
          · obtain ⟨e1, rfl⟩ := hlow hl
            refine ⟨by omega, by omega, by omega, fun d hd => ?_⟩
            have : d = 0 := by omega
            subst this; exact hc
          · have h1 := hhigh (by omega)
            have h2 := hfar (by omega)
            refine ⟨by omega, h2.1, h1.2, fun d hd => ?_⟩
            have := h2.2.2 d hd
            omega
        obtain ⟨h1, h2, h3, h4⟩ := hrn
        have hrn' : (R == 47) = false := by rw [beq_eq_false_iff_ne]; exact h1
        have HR := Shut.mk (hrl.out.step h4)
        clear hlow hhigh hfar hrl hc h4
        go_wp2_with fail
        go_roundw
        case rel => exact ⟨pos + wd, g, done, v, rfl, rfl, hit1, h2, by omega, by omega, HR, ⟨hown1⟩, ⟨hbl1⟩⟩
        case measure => rw [hitp, iterPos_of hit1]; omega
    · have hnx : ∀ ty, (Instr.next (.pointer (some ⟨w.heap.size, 0, none⟩)) true ty).run Try.prog wr = _ := fun ty => Lib.run_next_end_at wr w.heap.size p pos ty hit hlt
      have hfin := hrl.out.fin (by omega)
      have hsl := slice_from p g (by omega)
      have hln : (segs (lb p)).length = done.length + 1 := by
        have := congrArg List.length hfin
        rwa [List.length_map, List.length_append, List.length_singleton] at this
      have HL := Shut.mk hln
      have HF := Shut.mk hfin
      have hown1 := hown.out
      generalize p.extract g p.size = x at *
      clear hrl hfin hln hown
      go_wp2_with (at_builtin; refine wpList_append_own _ rfl _ _ 32 rfl w.heap.size 9 i0 (.string ⟨#[]⟩) 1 16 Try.underlying32 hi hz0 hz1 hz2 rfl (by decide) _ _ _ rfl (hown1.alloc _) ⟨wr.heap.size, 0, none⟩ 1 1 [.string x] rfl rfl (cell_one_new _ _ _) ?c2 ?c3 ?c4 ?c5 ?_)
      case c2 => first | rfl | (intro u hu; simp at hu; subst hu; rfl)
      case c3 => unfold maxLen; omega
      case c4 => omega
      case c5 => first | omega | (simp; omega)
      intro v' w4 hown' hgrow _
      rw [tv_snoc] at hown'
      have Q2 := Shut.mk ((hbl.out.alloc hB (.cells #[.string x] 9)).grown hgrow (by simp; omega) (fun j hj => (hown1.lt j hj).1))
      have Q1 := Shut.mk hown'
      clear hown' hgrow hown1
      go_wp2_with fail
      go_ret
      exact ⟨_, rfl, by rw [HL.out, HF.out]; exact Q1.out, Q2.out⟩
end Go.Proofs.Ytcnjjbgilpgceaa
/- NestB: Rows of rows of numbers: the laws' own copies, sizes, comparisons and marks. -/
namespace Go.Proofs.Ytcnjjbgilpgceaa
set_option maxRecDepth 100000
open Go.RowKit
attribute [local go_sem ↓] Go.wp_at_zero Go.wp_at_succ

theorem infoRow : (Try.prog.info? 26).map (fun i => (i.zero, i.size, i.bytes)) = some (some (.slice none 0 0), 1, 24) := by kernel_rfl
/-- Where the copy of a row of rows stands. -/
structure TI (w wr : World) (ss : List SR) (ts : List SR) : Prop where
  rweq : rws ts = rws (ss.take ts.length)
  out : WCells wr w.heap.size (svs ts ++ List.replicate (ss.length - ts.length) (.slice none 0 0))
  rows : ∀ s ∈ ts, ∃ b, s.loc = some ⟨b, 0, none⟩ ∧ w.heap.size ≤ b ∧ b < wr.heap.size ∧ b ≠ w.heap.size ∧ WCells wr b (ics s.row) ∧ s.row.length ≤ s.cap
  apart : (ts.map SR.loc).Nodup
  bel : Below w.heap.size w wr
theorem set_mid (A B : List Value) (x y : Value) (k : Nat) (h : A.length = k) : (A ++ x :: B).set k y = A ++ y :: B := by
  subst h
  rw [List.set_append_right _ _ (Nat.le_refl _)]
  simp
theorem TI.next {w wr w1 : World} {ss ts : List SR} {g1 : Nat} {row : List Int} {n : Nat} (h : TI w wr ss ts) (hk : ts.length < ss.length) (hrow : (ss[ts.length]).row = row) (hn : n = row.length) (hw : w.heap.size < wr.heap.size)
    (hg1 : wr.heap.size ≤ g1) (hc : WCells w1 g1 (ics row)) (hb : Below wr.heap.size wr w1) : TI w (w1.setCell ⟨w.heap.size, ts.length, none⟩ (.slice (some ⟨g1, 0, none⟩) n n)) ss (ts ++ [SR.mk (some ⟨g1, 0, none⟩) row row.length]) := by
  subst hn
  have hne : g1 ≠ w.heap.size := by omega
  have hsz : (w1.setCell ⟨w.heap.size, ts.length, none⟩ (.slice (some ⟨g1, 0, none⟩) row.length row.length)).heap.size = w1.heap.size := by simp [World.setCell]
  have hgs : w1.grownBy (w1.setCell ⟨w.heap.size, ts.length, none⟩ (.slice (some ⟨g1, 0, none⟩) row.length row.length)) (some w.heap.size) := gb_set' _ _ _ _
  refine ⟨?_, ?_, ?_, ?_, ?_⟩
  · rw [rws_snoc, h.rweq, List.length_append, List.length_singleton, List.take_succ_eq_append_getElem hk, rws_snoc, hrow]
  · have o := (h.out.below hb h.out.1).set ts.length (.slice (some ⟨g1, 0, none⟩) row.length row.length) (by rw [List.length_append, svs_len, List.length_replicate]; omega)
    obtain ⟨m, hm⟩ : ∃ m, ss.length - ts.length = m + 1 := ⟨ss.length - ts.length - 1, by omega⟩
    rw [hm, List.replicate_succ, set_mid _ _ _ _ _ (svs_len ts)] at o
    have e : svs (ts ++ [SR.mk (some ⟨g1, 0, none⟩) row row.length]) ++ List.replicate (ss.length - (ts ++ [SR.mk (some ⟨g1, 0, none⟩) row row.length]).length) (.slice none 0 0) = svs ts ++ .slice (some ⟨g1, 0, none⟩) row.length row.length :: List.replicate m (.slice none 0 0) := by
      rw [List.length_append, List.length_singleton, show ss.length - (ts.length + 1) = m by omega]
      simp [svs, srv]
    rw [e]
    exact o
  · intro s hs
    rcases List.mem_append.1 hs with h1 | h1
    · obtain ⟨b, e, q1, q2, q3, q4, q5⟩ := h.rows s h1
      exact ⟨b, e, q1, by rw [hsz]; exact Nat.lt_of_lt_of_le q2 hb.size, q3, (q4.below hb q4.1).apart hgs q3, q5⟩
    · simp at h1
      subst h1
      exact ⟨g1, rfl, by omega, by rw [hsz]; exact hc.1, hne, hc.apart hgs hne, Nat.le_refl _⟩
  · rw [List.map_append, List.nodup_append]
    refine ⟨h.apart, by simp, fun l hl l' hl' => ?_⟩
    obtain ⟨s, hs, rfl⟩ := List.mem_map.1 hl
    simp only [List.map_cons, List.map_nil, List.mem_singleton] at hl'
    subst hl'
    obtain ⟨b, e, _, q2, _⟩ := h.rows s hs
    rw [e]
    intro e2
    have e4 : b = g1 := congrArg Addr.block (Option.some.inj e2)
    omega
  · exact (h.bel.trans (hb.mono h.bel.size)).setCell (p := ⟨w.heap.size, ts.length, none⟩) (Nat.le_refl _) _
theorem TI.fin {w wr : World} {ss ts : List SR} (h : TI w wr ss ts) (hl : ts.length = ss.length) : rws ts = rws ss ∧ MW wr w.heap.size ts w.heap.size wr.heap.size := by
  refine ⟨by rw [h.rweq, hl, List.take_of_length_le (Nat.le_refl _)], ?_, Nat.le_refl _, h.out.1, h.rows, h.apart⟩
  have := h.out
  rwa [hl, Nat.sub_self, List.replicate_zero, List.append_nil] at this
/-- What a copy of a row of rows is. -/
def ToRows (ss : List SR) (w : World) (e : Ending) (w' : World) : Prop :=
  ∃ g ts, e = .returned (.slice (some ⟨g, 0, none⟩) ss.length ss.length) ∧ List.length (α := SR) ts = ss.length ∧ rws ts = rws ss ∧ MW w' g ts w.heap.size w'.heap.size ∧ Below w.heap.size w w'
/-- The size of rows of numbers, as the laws count it. -/
def msum : List SR → Nat
  | [] => 0
  | s :: ss => s.row.length + msum ss
theorem msum_take (ss : List SR) (k : Nat) (h : k < ss.length) : msum (ss.take (k + 1)) = msum (ss.take k) + ss[k].row.length := by
  induction ss generalizing k with
  | nil => simp at h
  | cons s ss ih =>
    cases k with
    | zero => simp [msum]
    | succ k =>
      have := ih k (by simpa using h)
      simp only [List.take_succ_cons, msum, this, List.getElem_cons_succ]
      omega
theorem msum_le (ss : List SR) (k : Nat) : msum (ss.take k) ≤ msum ss := by
  induction ss generalizing k with
  | nil => simp [msum]
  | cons s ss ih =>
    cases k with
    | zero => simp [msum]
    | succ k => have := ih k; simp only [List.take_succ_cons, msum]; omega
theorem msum_mem {ss : List SR} {s : SR} (h : s ∈ ss) : s.row.length ≤ msum ss := by
  induction ss with
  | nil => simp at h
  | cons t ss ih =>
    rcases List.mem_cons.1 h with rfl | h
    · simp only [msum]; omega
    · have := ih h; simp only [msum]; omega
/-- What is left of the room: or a number below 0. -/
def SzRows (left : Int) (n : Nat) (w : World) (e : Ending) (w' : World) : Prop := ∃ r : Int, e = .returned (.int .i64 r) ∧ w' = w ∧ ((n : Int) ≤ left → r = left - n) ∧ (left < n → r < 0)
end Go.Proofs.Ytcnjjbgilpgceaa
/- StrW: The size of a row of texts. -/
namespace Go.Proofs.Ytcnjjbgilpgceaa
set_option maxRecDepth 100000
open Go.RowKit
attribute [local go_sem ↓] Go.wp_at_zero Go.wp_at_succ

end Go.Proofs.Ytcnjjbgilpgceaa
/- OffA: Rows of texts that lie anywhere in their block: held against one another, marked, found again. -/
namespace Go.Proofs.Ytcnjjbgilpgceaa
set_option maxRecDepth 100000
open Go.RowKit
attribute [local go_sem ↓] Go.wp_at_zero Go.wp_at_succ

/-- Texts that may be written, from a place of a block on. -/
def OCells (w : World) (g off : Nat) (xs : List ByteArray) : Prop :=
  g < w.heap.size ∧ ∀ j, j < xs.length → w.cell? ⟨g, off + j, none⟩ = some (.string (xs.getD j ⟨#[]⟩)) ∧ w.frozen? ⟨g, off + j, none⟩ = false
theorem OCells.below {w w' : World} {g off B : Nat} {xs : List ByteArray} (h : OCells w g off xs) (hb : Below B w w') (hg : g < B) : OCells w' g off xs :=
  ⟨Nat.lt_of_lt_of_le h.1 hb.size, fun j hj => ⟨(hb.cell (p := ⟨g, off + j, none⟩) hg).trans (h.2 j hj).1, (hb.frozen (p := ⟨g, off + j, none⟩) hg).trans (h.2 j hj).2⟩⟩
theorem OCells.block {w w' : World} {g off : Nat} {xs : List ByteArray} (h : OCells w g off xs) (hs : w.heap.size ≤ w'.heap.size) (hb : w'.heap[g]? = w.heap[g]?) : OCells w' g off xs :=
  ⟨Nat.lt_of_lt_of_le h.1 hs, fun j hj => ⟨(World.cell?_of_block (a := ⟨g, off + j, none⟩) hb).trans (h.2 j hj).1, (World.frozen?_of_block (a := ⟨g, off + j, none⟩) hb).trans (h.2 j hj).2⟩⟩
theorem OCells.set {w : World} {g off : Nat} {xs : List ByteArray} (h : OCells w g off xs) (i : Nat) (x : ByteArray) (hi : i < xs.length) : OCells (w.setCell ⟨g, off + i, none⟩ (.string x)) g off (xs.set i x) := by
  refine ⟨by have := h.1; simpa [World.setCell] using this, fun j hj => ?_⟩
  rw [List.length_set] at hj
  refine ⟨?_, (World.frozen?_setCell _ _ _ _).trans (h.2 j hj).2⟩
  by_cases e : j = i
  · subst e
    rw [World.cell?_setCell_same _ _ _ (h.2 j hj).1]
    simp [List.getD, hi]
  · rw [World.cell?_setCell_other _ _ _ _ (by first | (simp; done) | (simp; omega)), (h.2 j hj).1]
    simp [List.getD, Ne.symm e]
theorem OCells.marks {w : World} {g off k n : Nat} {ys : List ByteArray} (h : OCells w g off ys) (hl : ys.length = n) (hy : ∀ t, t < n → ys.getD t ⟨#[]⟩ = mt (k + t)) : OCells w g off (marks k n) := by
  refine ⟨h.1, fun j hj => ?_⟩
  rw [marks_len] at hj
  have := h.2 j (by omega)
  rw [marks_at k n j hj, ← hy j hj]
  exact this
/-- An answer of texts, wherever in its block. -/
def OAns (w : World) (v : Value) (L : List ByteArray) (lo hi : Nat) : Prop := ∃ (a : Option Addr) (cap : Nat), v = .slice a L.length cap ∧ L.length ≤ cap ∧ (L = [] ∨ ∃ g off, a = some ⟨g, off, none⟩ ∧ lo ≤ g ∧ g < hi ∧ OCells w g off L)
theorem OAns.see {w : World} {v : Value} {L : List ByteArray} {lo hi : Nat} (h : OAns w v L lo hi) : SSee w v L lo hi := by
  obtain ⟨a, cap, e, _, h1⟩ := h
  refine ⟨a, cap, e, ?_⟩
  rcases h1 with rfl | ⟨g, off, rfl, q1, q2, hm⟩
  · intro h; simp [tv] at h
  · intro _
    refine ⟨g, off, rfl, q1, q2, hm.1, fun i v hv => ?_⟩
    have hi : i < L.length := by
      have := (List.getElem?_eq_some_iff.1 hv).1
      rwa [tv_len] at this
    rw [tv_get L i hi] at hv
    cases hv
    exact (hm.2 i hi).1
theorem SAns.oans {w : World} {v : Value} {L : List ByteArray} {lo hi : Nat} (h : SAns w v L lo hi) : OAns w v L lo hi := by
  obtain ⟨a, cap, e, hc, h1⟩ := h
  refine ⟨a, cap, e, hc, ?_⟩
  rcases h1 with rfl | ⟨g, rfl, q1, q2, hm⟩
  · exact .inl rfl
  · refine .inr ⟨g, 0, rfl, q1, q2, hm.1, fun j hj => ?_⟩
    rw [Nat.zero_add]
    exact hm.2 j _ (tv_get L j hj)
theorem OAns.form {w : World} {v : Value} {L : List ByteArray} {lo hi : Nat} (h : OAns w v L lo hi) : ∃ a cap, v = .slice a L.length cap := by
  obtain ⟨a, cap, e, _⟩ := h
  exact ⟨a, cap, e⟩
theorem OAns.turned {w w' : World} {v : Value} {L : List ByteArray} {lo hi lo' hi' : Nat} (h : OAns w v L lo hi) (t : Turned w w' lo' hi') (hd : hi ≤ lo' ∨ hi' ≤ lo) : OAns w' v L lo hi := by
  obtain ⟨a, cap, e, hc, h1⟩ := h
  refine ⟨a, cap, e, hc, ?_⟩
  rcases h1 with rfl | ⟨g, off, rfl, q1, q2, hm⟩
  · exact .inl rfl
  · exact .inr ⟨g, off, rfl, q1, q2, hm.block t.size (t.block g hm.1 (by omega))⟩
theorem OAns.below {w w' : World} {v : Value} {L : List ByteArray} {lo hi : Nat} (h : OAns w v L lo hi) (hb : Below w.heap.size w w') : OAns w' v L lo hi := by
  obtain ⟨a, cap, e, hc, h1⟩ := h
  refine ⟨a, cap, e, hc, ?_⟩
  rcases h1 with rfl | ⟨g, off, rfl, q1, q2, hm⟩
  · exact .inl rfl
  · exact .inr ⟨g, off, rfl, q1, q2, hm.below hb hm.1⟩
theorem same_beq (x : ByteArray) : (x.toList == x.toList) = true := by simp
set_option maxHeartbeats 400000 in
theorem eqStringS_off {w : World} {v u : Value} {L : List ByteArray} {lo hi lo' hi' : Nat} (h : SSee w v L lo hi) (k : SSee w u L lo' hi') (hn : L.length ≤ 100000000) : Calls Try.prog 30 #[v, u] w fun e w' => e = .returned (.bool true) ∧ Below w.heap.size w w' := by
  obtain ⟨a, ca, rfl, ha⟩ := h
  obtain ⟨b, cb, rfl, hb⟩ := k
  have HA := Shut.mk (fun hp => units_at ha hp)
  have HB := Shut.mk (fun hp => units_at hb hp)
  obtain ⟨n, hnx⟩ : ∃ n, n = L.length := ⟨_, rfl⟩
  rw [← hnx] at HA HB hn ⊢
  clear ha hb hnx
  have hd : (((n : Int) != (n : Int))) = false := by simp
  go_enter Try.func30, Try.ntmps30
  go_wp2_with fail
  go_loopw [5] (fun i wr => ∃ (k q : Nat), i = .int .i64 k ∧ k ≤ n ∧ wr = w.drewN q) (fun i _ => n - (intOf i).toNat)
  case atStart => exact ⟨0, 0, rfl, Nat.zero_le _, rfl⟩
  case round =>
    obtain ⟨k, q, rfl, hk, rfl⟩ := hrel
    by_cases hlt : k < n
    · obtain ⟨g, o1, rfl, _, hc⟩ := HA.out (by omega)
      obtain ⟨g', o2, rfl, _, hc'⟩ := HB.out (by omega)
      have c1 := hc k hlt
      have c2 := hc' k hlt
      have k0 : (0 : Int) ≤ (k : Int) := by omega
      have k1 : (k : Int) < (n : Int) := by omega
      generalize L.getD k ⟨#[]⟩ = x at c1 c2
      have hxx := same_beq x
      clear hc hc' HA HB
      go_wp2_with fail
      go_quiet (fail)
      go_wp2_with fail
      go_roundw
      case rel => exact ⟨k + 1, q + nq, by go_num, by omega, rfl⟩
      case measure => simp [intOf]; omega
    · go_wp2_with fail
      go_ret
      exact ⟨rfl, ⟨rfl, rfl, rfl, Nat.le_refl _, fun _ _ => rfl⟩⟩
set_option maxHeartbeats 400000 in
theorem heldStringS_off {w : World} {v : Value} {k n lo hi : Nat} (h : SSee w v (marks k n) lo hi) (hk : 0 < k) (hn : k + n ≤ 100000000) :
    Calls Try.prog 32 #[v, .int .i64 k] w fun e w' => e = .returned (.int .i64 (k + n : Nat)) ∧ Below w.heap.size w w' := by
  obtain ⟨a, ca, rfl, ha⟩ := h
  rw [marks_len]
  have HA := Shut.mk (fun hp => units_at ha hp)
  rw [marks_len] at HA
  clear ha
  go_enter Try.func32, Try.ntmps32
  go_wp2_with fail
  go_loopw [1, 5] (fun c i wr => ∃ (j : Nat), i = .int .i64 j ∧ c = .int .i64 (k + j : Nat) ∧ j ≤ n ∧ Below w.heap.size w wr) (fun _ i _ => n - (intOf i).toNat)
  case atStart => exact ⟨0, rfl, rfl, Nat.zero_le _, Below.refl _ _⟩
  case round =>
    obtain ⟨j, rfl, rfl, hj, hb⟩ := hrel
    have hB := hb.size
    by_cases hlt : j < n
    · obtain ⟨g, off, rfl, hg, hc⟩ := HA.out (by omega)
      have c1 := hc j hlt
      rw [marks_at k n j hlt, ← hb.cell (p := ⟨g, off + j, none⟩) hg] at c1
      have j0 : (0 : Int) ≤ (j : Int) := by omega
      have j1 : (j : Int) < (n : Int) := by omega
      clear hc HA
      go_wp2_with fail
      go_region_held3 (fun w' => w'.cell? ⟨g, off + j, none⟩ = some (.string (mt (k + j)))) (first | go_keep | (rw [hb1.cell (p := ⟨g, off + j, none⟩) (by simp; omega)]; assumption)) ((go_at_call 53; refine (markText_any (k + j) _ ?_ ?_).mono ?_; (omega); (omega); rintro e w1 ⟨rfl, hb1⟩))
      all_goals go_wp2_with fail
      exact ⟨⟨j + 1, by go_num, congrArg (Value.int .i64) (by omega), by omega, hb.trans ((Below.drew (Below.refl _ _)).trans (hb1.mono hB))⟩, by simp [intOf]; omega⟩
    · have e : j = n := by omega
      subst e
      go_wp2_with fail
      go_ret
      exact ⟨rfl, hb⟩
set_option maxHeartbeats 400000 in
theorem markStringS_at (g off : Nat) (xs : List ByteArray) (k ca : Nat) (w : World) (ha : OCells w g off xs) (hk : 0 < k) (hn : k + xs.length ≤ 100000000) (hca : xs.length ≤ ca) :
    Calls Try.prog 31 #[.slice (some ⟨g, off, none⟩) xs.length ca, .int .i64 k] w fun e w' => e = .returned (.int .i64 (k + xs.length : Nat)) ∧ OCells w' g off (marks k xs.length) ∧ w.grownBy w' (some g) := by
  obtain ⟨n, hnx⟩ : ∃ n, n = xs.length := ⟨_, rfl⟩
  have HN : Hid (n = xs.length) := hnx
  rw [← hnx]
  rw [← hnx] at hn hca
  clear hnx
  go_enter Try.func31, Try.ntmps31
  go_wp2_with fail
  go_loopw [1, 5] (fun c i wr => ∃ (j : Nat) (ys : List ByteArray), i = .int .i64 j ∧ c = .int .i64 (k + j : Nat) ∧ j ≤ n ∧ ys.length = n ∧ (∀ t, t < j → ys.getD t ⟨#[]⟩ = mt (k + t)) ∧ OCells wr g off ys ∧ w.grownBy wr (some g)) (fun _ i _ => n - (intOf i).toNat)
  case atStart => exact ⟨0, xs, rfl, rfl, Nat.zero_le _, HN.out.symm, fun t ht => by omega, ha, grownBy_below (Below.refl _ _)⟩
  case round =>
    obtain ⟨j, ys, rfl, rfl, hj, hyl, hys, hw, hgr⟩ := hrel
    have HL : Hid (ys.length = n) := hyl
    have HY : Hid _ := hys
    clear hyl hys
    by_cases hlt : j < n
    · have j0 : (0 : Int) ≤ (j : Int) := by omega
      have j1 : (j : Int) < (n : Int) := by omega
      go_wp2_with fail
      refine (markText_any (k + j) _ (by omega) (by omega)).mono ?_
      rintro e w1 ⟨rfl, hb1⟩
      have hw1 := hw.below hb1 hw.1
      have c1 := (hw1.2 j (by have := HL.out; omega)).1
      have c2 := (hw1.2 j (by have := HL.out; omega)).2
      have hset := hw1.set j (mt (k + j)) (by have := HL.out; omega)
      have hgs := grownBy_two hgr (grownBy_two (grownBy_below hb1) (grownBy_setCell w1 g (off + j) (.string (mt (k + j)))))
      clear hw hgr hb1
      go_wp2_with fail
      go_roundw
      case rel => exact ⟨j + 1, _, by go_num, congrArg (Value.int .i64) (by omega), by omega, by rw [List.length_set]; exact HL.out, set_marks HY.out (by have := HL.out; omega), hset, hgs⟩
      case measure => simp [intOf]; omega
    · have e : j = n := by omega
      subst e
      have hfin := hw.marks HL.out HY.out
      go_wp2_with fail
      go_ret
      exact ⟨rfl, hfin, hgr⟩
theorem markStringS_off {w : World} {v : Value} {L : List ByteArray} {lo hi : Nat} (k : Nat) (h : OAns w v L lo hi) (h0 : 0 < k) (hk : k + L.length ≤ 100000000) :
    Calls Try.prog 31 #[v, .int .i64 k] w fun e w' => e = .returned (.int .i64 (k + L.length : Nat)) ∧ OAns w' v (marks k L.length) lo hi ∧ Turned w w' lo hi := by
  obtain ⟨a, cap, rfl, hc, h1⟩ := h
  rcases h1 with rfl | ⟨g, off, rfl, q1, q2, hm⟩
  · refine (markStringS_none a k cap w).mono ?_
    rintro e w' ⟨rfl, rfl⟩
    exact ⟨rfl, ⟨a, cap, rfl, Nat.zero_le _, .inl rfl⟩, Turned.refl _ _ _⟩
  · refine (markStringS_at g off L k cap w hm h0 hk hc).mono ?_
    rintro e w' ⟨rfl, hw, hg⟩
    exact ⟨rfl, ⟨_, cap, by rw [marks_len], by rw [marks_len]; exact hc, .inr ⟨g, off, rfl, q1, q2, hw⟩⟩, Turned.of_grown hg q1 q2⟩
end Go.Proofs.Ytcnjjbgilpgceaa
/- GuardA: An append that stands behind a guard which is open. -/
namespace Go.Proofs.Ytcnjjbgilpgceaa
set_option maxRecDepth 100000

theorem wpList_append_guard {P : Program} {w : World} {ops : Array Oper} {rest : List Oper} {o : Oper} {a : Act} {Q : Exit → Act → World → Prop} (hgd : Region.wanted o (yielded ops a.tmps) = true) (s x : Operand) (t : TypeId)
    (ho : o.op = .call { callee := .builtin .append, args := #[s, x], argTypes := #[t, t] })
    (base : Nat) (e : TypeId) (i : TypeInfo) (z : Value) (size bytes : Nat) (ht : P.underlying t = some (.slice e)) (hi : P.info? e = some i) (hz : i.zero = some z)
    (hsize : i.size = size) (hby : i.bytes = bytes) (hzs : z.cells.size = size) (hsz : 0 < size)
    (v : Value) (n : Nat) (xs : List Value) (hs : a.eval s = v) (hown : w.ownsRow base e size v n xs)
    (ad : Addr) (m c : Nat) (news : List Value) (hx : a.eval x = .slice (some ad) m c) (hl : news.length = m * size) (hnews : ∀ j u, news[j]? = some u → w.cell? (ad.add j) = some u) (h1 : ∀ u ∈ news, u.oneCell' = true)
    (h63 : n + m ≤ maxLen) (hbytes : (n + m) * bytes ≤ 140737488355328) (hbase : base ≤ w.heap.size)
    (h : ∀ v' w', w'.ownsRow base e size v' (n + m) (xs ++ news) → w.grownBy w' v.ownBlock → wpList P ops Q rest (a.put o.dst v') w') :
    wpList P ops Q (o :: rest) a w := by
  obtain ⟨v', w', hr, h2, h3, h4, h5⟩ := run_append_own_at (P := P) w base t o.type e i z size bytes ht hi hz hsize hby hzs hsz v n xs hown ad m c news hl hnews h1 h63 hbytes hbase
  show if Region.wanted o (yielded ops a.tmps) = true then _ else _
  rw [if_pos hgd]
  left
  unfold Oper.wp execOp
  simp only [ho, resolve, invoke, builtin, Sem.run_bind, Sem.run_pure, Result.andThen_ok, List.map_toArray, List.map_cons, List.map_nil, hs, hx, hr]
  exact h v' w' h2 h3
end Go.Proofs.Ytcnjjbgilpgceaa
