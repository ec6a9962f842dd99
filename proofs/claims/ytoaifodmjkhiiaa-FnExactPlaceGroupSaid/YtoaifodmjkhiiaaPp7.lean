/- Texts of ours, laid one behind the other: HeB, HeC, GrwE, GrwF, GrwG, HeD, HeE, OpenM, UnRo, HoO, HsO. -/
import Derived.Test.YtoaifodmjkhiiaaPp6
import Derived.Maps.AppendAt
import Derived.Deep.Slices
import Derived.Deep.Strs
import Derived.ChangeArms
import Derived.ChangeSame
import Derived.WideShapes
import Derived.OpenShut
/- HeB: The program's own: the queue's methods. -/
namespace Go.Proofs.Ytoaifodmjkhiiaa
set_option maxRecDepth 100000
open Go.RowKit BigFrame
attribute [local go_sem ↓] Go.wp_at_zero Go.wp_at_succ

theorem seS_set (b off : Nat) (Q : List Nat) (i x : Nat) : ((seS b off Q).set (i * 2) (.pointer (some ⟨b, off + x * 3, none⟩))).set (i * 2 + 1) (.int .i64 (x : Nat)) = seS b off (Q.set i x) := by
  apply List.ext_getElem?
  intro k
  by_cases hk : k < Q.length * 2
  · obtain ⟨m, r, hr, rfl⟩ : ∃ m r, r < 2 ∧ k = m * 2 + r := ⟨k / 2, k % 2, by omega, by omega⟩
    have hm : m < Q.length := by omega
    have e1 : (seS b off Q)[m * 2 + r]? = (seC b off Q[m])[r]? := flat_get (seC_len b off) Q m hm r hr
    have e2 : (seS b off (Q.set i x))[m * 2 + r]? = (seC b off ((Q.set i x)[m]'(by rw [List.length_set]; exact hm)))[r]? := flat_get (seC_len b off) (Q.set i x) m (by rw [List.length_set]; exact hm) r hr
    rw [e2, List.getElem_set, List.getElem?_set, List.getElem?_set, List.length_set, seS_len]
    match r, hr with
    | 0, _ =>
      rw [if_neg (by omega)]
      by_cases e : i = m
      · subst e
        rw [if_pos (by omega), if_pos (by omega), if_pos rfl]
        rfl
      · rw [if_neg (by omega), if_neg e, e1]
    | 1, _ =>
      by_cases e : i = m
      · subst e
        rw [if_pos rfl, if_pos (by omega), if_pos rfl]
        rfl
      · rw [if_neg (by omega), if_neg (by omega), if_neg e, e1]
  · rw [List.getElem?_eq_none (by simp only [List.length_set, seS_len]; omega), List.getElem?_eq_none (by rw [seS_len, List.length_set]; omega)]
/-- A cell of a row of one's own is set. -/
theorem OwS.cell {w0 W : World} {S : List Str} {ty sz g n c : Nat} {L : List Value} (h : OwS w0 W S ty sz (.slice (some ⟨g, 0, none⟩) n c) n L) (j : Nat) (u : Value) : OwS w0 (W.setCell ⟨g, j, none⟩ u) S ty sz (.slice (some ⟨g, 0, none⟩) n c) n (L.set j u) := by
  have q := h.own.stored j u
  have e : (Value.slice (some ⟨g, 0, none⟩) n c).ownBlock = some g := rfl
  exact ⟨h.sl.grown q.2 fun k hk => by cases hk; exact ⟨(h.lt g e).1, h.far g e⟩, q.1, h.far⟩
theorem OwS.drew {w0 W : World} {S : List Str} {ty sz n : Nat} {v : Value} {L : List Value} (h : OwS w0 W S ty sz v n L) : OwS w0 W.drew S ty sz v n L := h.below (Below.drew (Below.refl _ _))
/-- Two seats change places. -/
theorem OwS.swap {w0 W : World} {S : List Str} {g n c b off : Nat} {Q : List Nat} (h : OwS w0 W S 77 2 (.slice (some ⟨g, 0, none⟩) n c) n (seS b off Q)) (i j : Nat) :
    OwS w0 ((((W.setCell ⟨g, i * 2, none⟩ (.pointer (some ⟨b, off + Q.getD j 0 * 3, none⟩))).setCell ⟨g, i * 2 + 1, none⟩ (.int .i64 (Q.getD j 0 : Nat))).setCell ⟨g, j * 2, none⟩ (.pointer (some ⟨b, off + Q.getD i 0 * 3, none⟩))).setCell ⟨g, j * 2 + 1, none⟩ (.int .i64 (Q.getD i 0 : Nat))) S 77 2 (.slice (some ⟨g, 0, none⟩) n c) n (seS b off (sw Q i j)) := by
  have q := (((h.cell (i * 2) (.pointer (some ⟨b, off + Q.getD j 0 * 3, none⟩))).cell (i * 2 + 1) (.int .i64 (Q.getD j 0 : Nat))).cell (j * 2) (.pointer (some ⟨b, off + Q.getD i 0 * 3, none⟩))).cell (j * 2 + 1) (.int .i64 (Q.getD i 0 : Nat))
  rw [seS_set b off Q i, seS_set b off _ j] at q
  exact q
set_option maxRecDepth 100000 in
set_option maxHeartbeats 2000000 in
theorem implSwap {w0 w : World} {S : List Str} {g n c b off : Nat} {Q : List Nat} (h : OwS w0 w S 77 2 (.slice (some ⟨g, 0, none⟩) n c) n (seS b off Q)) (hn : Q.length = n) (i j : Nat) (hi : i < n) (hj : j < n) :
    Calls Try.prog 95 #[.slice (some ⟨g, 0, none⟩) n c, .int .i64 (i : Nat), .int .i64 (j : Nat)] w fun e w' => e = .returned (.tuple #[]) ∧ OwS w0 w' S 77 2 (.slice (some ⟨g, 0, none⟩) n c) n (seS b off (sw Q i j)) := by
  have HSW := Shut.mk (h.swap i j).drew
  obtain ⟨a0, a1, lg⟩ := seS_at (FRw.of_own h.own).1.crow (show i < Q.length by omega)
  obtain ⟨a2, a3, _⟩ := seS_at (FRw.of_own h.own).1.crow (show j < Q.length by omega)
  have z0 := h.own.frozenAt (i * 2)
  have z1 := h.own.frozenAt (i * 2 + 1)
  have z2 := h.own.frozenAt (j * 2)
  have z3 := h.own.frozenAt (j * 2 + 1)
  have i0 : (0 : Int) ≤ (i : Int) := by omega
  have j0 : (0 : Int) ≤ (j : Int) := by omega
  have i1 : (i : Int) < (n : Int) := by omega
  have j1 : (j : Int) < (n : Int) := by omega
  have hst : i = j → Q.getD j 0 = Q.getD i 0 := fun e => by rw [e]
  generalize sw Q i j = R at *
  generalize Q.getD i 0 = s at *
  generalize Q.getD j 0 = t at *
  clear h hn
  by_cases e : i = j
  · obtain rfl := hst e
    subst e
    clear hst
    go_enter Try.func95, Try.ntmps95
    go_wp2_with fail
    go_region
    go_wp2_with fail
    go_end0
    exact ⟨rfl, HSW.out⟩
  · clear hst
    have e1 : ¬ i * 2 = j * 2 := by omega
    have e2 : ¬ i * 2 + 1 = j * 2 := by omega
    have e3 : ¬ i * 2 = j * 2 + 1 := by omega
    have e4 : ¬ i * 2 + 1 = j * 2 + 1 := by omega
    have e5 : ¬ j * 2 = i * 2 := by omega
    have e6 : ¬ j * 2 + 1 = i * 2 := by omega
    have e7 : ¬ j * 2 = i * 2 + 1 := by omega
    go_enter Try.func95, Try.ntmps95
    go_wp2_with fail
    go_region
    go_wp2_with fail
    go_end0
    exact ⟨rfl, HSW.out⟩
theorem implLen (v : Option Addr) (n c : Nat) (w : World) : Calls Try.prog 30 #[.slice v n c] w fun e w' => e = .returned (.int .i64 (n : Nat)) ∧ w' = w := by
  go_enter Try.func30, Try.ntmps30
  go_wp2_with fail
  go_ret
  exact ⟨rfl, rfl⟩
theorem find_q (name : String) (f : Nat) (h : ((Try.t55.methods.find? fun x => x.name == name).map fun m => (m.path.size, m.func)) = some (0, some (f, false))) : ∃ m, (Try.t55.methods.find? fun x => x.name == name) = some m ∧ m.path = #[] ∧ m.func = some (f, false) := by
  cases e : (Try.t55.methods.find? fun x => x.name == name) with
  | none => rw [e] at h; cases h
  | some m =>
    rw [e] at h
    simp only [Option.map_some, Option.some.injEq, Prod.mk.injEq] at h
    exact ⟨m, rfl, Array.eq_empty_of_size_eq_zero h.1, h.2⟩
theorem meth_q (name : String) (f : Nat) (h : ((Try.t55.methods.find? fun x => x.name == name).map fun m => (m.path.size, m.func)) = some (0, some (f, false))) (m B : Nat) (v : Value) (x : World) (hx : x.cell? ⟨B, 0, none⟩ = some v) :
    Sem.run Try.prog (method (m + 1) 55 (.pointer (some ⟨B, 0, none⟩)) name) x = .ok (f, v) x := by
  obtain ⟨mm, h1, h2, h3⟩ := find_q name f h
  have hs : ∀ (nm : String) (y : World), Sem.run Try.prog (Builtin.ssaWrapNilChk_ #[55] 55 #[.pointer (some ⟨B, 0, none⟩), strVal "", strVal nm]) y = .ok (.pointer (some ⟨B, 0, none⟩)) y := fun nm y => rfl
  unfold method
  simp [go_sem, h1, h2, h3, follow, receiverAt, Place.get, hs, hx]
abbrev qif (B : Nat) : Value := .iface 55 (.pointer (some ⟨B, 0, none⟩))
theorem less_meth (B : Nat) (v : Value) (x : World) (hx : x.cell? ⟨B, 0, none⟩ = some v) (m : Nat) : Sem.run Try.prog (method (m + 1) 55 (.pointer (some ⟨B, 0, none⟩)) "Less") x = .ok (92, v) x := meth_q "Less" 92 (by kernel_rfl) m B v x hx
theorem swap_meth (B : Nat) (v : Value) (x : World) (hx : x.cell? ⟨B, 0, none⟩ = some v) (m : Nat) : Sem.run Try.prog (method (m + 1) 55 (.pointer (some ⟨B, 0, none⟩)) "Swap") x = .ok (95, v) x := meth_q "Swap" 95 (by kernel_rfl) m B v x hx
theorem len_meth (B : Nat) (v : Value) (x : World) (hx : x.cell? ⟨B, 0, none⟩ = some v) (m : Nat) : Sem.run Try.prog (method (m + 1) 55 (.pointer (some ⟨B, 0, none⟩)) "Len") x = .ok (30, v) x := meth_q "Len" 30 (by kernel_rfl) m B v x hx
theorem perm_lt {Q R : List Nat} (h : R.Perm Q) {n : Nat} (hQ : ∀ x ∈ Q, x < n) : ∀ x ∈ R, x < n := fun x hx => hQ x (h.mem_iff.1 hx)
set_option maxRecDepth 100000 in
set_option maxHeartbeats 2000000 in
theorem implUp {w0 w : World} {S : List Str} {B g n c b off : Nat} {Q : List Nat} {rs : List HoR} (h : OwS w0 w (bxS B [.slice (some ⟨g, 0, none⟩) n c] :: S) 77 2 (.slice (some ⟨g, 0, none⟩) n c) n (seS b off Q)) (hn : Q.length = n) (hnl : n ≤ 1048576) (hr : HsRow w0 (some ⟨b, off, none⟩) rs) (hQ : ∀ x ∈ Q, x < rs.length) (j : Nat) (hj : j < n) (hu : UpI (pk (hms rs)) Q n j) :
    Calls Try.prog 48 #[qif B, .int .i64 (j : Nat)] w fun e w' => e = .returned (.tuple #[]) ∧ ∃ R, R.Perm Q ∧ HpN (pk (hms rs)) R n ∧ OwS w0 w' (bxS B [.slice (some ⟨g, 0, none⟩) n c] :: S) 77 2 (.slice (some ⟨g, 0, none⟩) n c) n (seS b off R) := by
  have H := Shut.mk (And.intro h (And.intro hn (And.intro hQ hu)))
  have HR := Shut.mk hr
  clear h hn hr hQ hu
  go_enter Try.func48, Try.ntmps48
  go_wp2_with fail
  go_loopw [1] (fun v wr => ∃ (k : Nat) (R : List Nat), v = .int .i64 (k : Nat) ∧ k < n ∧ Shut (OwS w0 wr (bxS B [.slice (some ⟨g, 0, none⟩) n c] :: S) 77 2 (.slice (some ⟨g, 0, none⟩) n c) n (seS b off R) ∧ R.Perm Q ∧ UpI (pk (hms rs)) R n k)) (fun v _ => (intOf v).toNat)
  case atStart => exact ⟨j, Q, rfl, hj, ⟨H.out.1, List.Perm.refl _, H.out.2.2.2⟩⟩
  case round =>
    obtain ⟨k, R, rfl, hk, HW⟩ := hrel
    by_cases hz : k = 0
    · subst hz
      go_wp2_with fail
      go_end0
      exact ⟨rfl, R, HW.out.2.1, HW.out.2.2.done, HW.out.1⟩
    · obtain ⟨q, hq⟩ : ∃ q, q = par k := ⟨_, rfl⟩
      have hp : ((k : Int) - 1) / 2 = (q : Int) := by rw [hq]; unfold par; omega
      have hqk : q < k := by rw [hq]; exact par_lt (by omega)
      have hqe : ((q : Int) == (k : Int)) = false := by simp; omega
      have hqn : ¬ (q : Int) = (k : Int) := by omega
      have hRl : R.length = n := by rw [HW.out.2.1.length_eq]; exact H.out.2.1
      have HLS := Shut.mk (implLess b off g rs R c k q wr (HR.out.stays HW.out.1.sl.bel) (FRw.of_own HW.out.1.own).1.crow (perm_lt HW.out.2.1 H.out.2.2.1) (by omega) (by omega))
      rw [hRl] at HLS
      have HCN := Shut.mk (cmpS_neg (hms rs) (R.getD k 0) (R.getD q 0))
      have x0 := (HW.out.1.sl.bx 0 rfl 0 _ rfl).1
      have hm := less_meth B _ wr x0
      have HQ := Shut.mk hq
      have HRL := Shut.mk hRl
      generalize cmpS (hms rs) (R.getD k 0) (R.getD q 0) = cv at *
      clear hq hRl
      by_cases hc : cv < 0
      · have hcd : decide (cv < 0) = true := by simpa using hc
        rw [hcd] at HLS
        have HU := Shut.mk (HW.out.2.2.swap (by omega) hk (Nat.le_of_eq HRL.out.symm) (by rw [← HQ.out]; exact HCN.out.1 hc))
        rw [← HQ.out] at HU
        have HP : Shut ((sw R q k).Perm Q) := ⟨(sw_perm R q k (by have := HRL.out; omega) (by have := HRL.out; omega)).trans HW.out.2.1⟩
        clear hc hcd HCN
        go_wp2_with (first
          | (go_at_call 92; refine HLS.out.mono ?_; rintro e w2 ⟨rfl, hb⟩; have HW2 := Shut.mk (HW.out.1.below hb); clear hb hm x0; have x2 := (HW2.out.sl.bx 0 rfl 0 _ rfl).1; have hm2 := swap_meth B _ w2 x2)
          | (go_at_call 95; refine (implSwap HW2.out HRL.out q k (by omega) hk).mono ?_; rintro e w3 ⟨rfl, h3⟩; have HW3 := Shut.mk h3; clear h3))
        go_roundw
        case rel => exact ⟨q, sw R q k, rfl, by omega, ⟨HW3.out, HP.out, HU.out⟩⟩
        case measure => simp [intOf]; omega
      · have HS : Shut (HpN (pk (hms rs)) R n) := ⟨HW.out.2.2.stop (by rw [← HQ.out]; exact fun q => hc (HCN.out.2 q))⟩
        have hcd : decide (cv < 0) = false := by simpa using hc
        rw [hcd] at HLS
        clear hc hcd HCN
        go_wp2_with (go_at_call 92; refine HLS.out.mono ?_; rintro e w2 ⟨rfl, hb⟩; have HW2 := Shut.mk (HW.out.1.below hb); clear hb)
        go_end0
        exact ⟨rfl, R, HW.out.2.1, HS.out, HW2.out⟩
end Go.Proofs.Ytoaifodmjkhiiaa
/- HeC: The library's heap: how one goes down (written by gen/mkhec.py). -/
namespace Go.Proofs.Ytoaifodmjkhiiaa
set_option maxRecDepth 100000
open Go.RowKit BigFrame
attribute [local go_sem ↓] Go.wp_at_zero Go.wp_at_succ

/-- It answers a flag. -/
def SomeB (e : Ending) : Prop := ∃ v, e = .returned (.bool v)
/-- Less, in every later world. -/
theorem less_later {w0 w : World} {S : List Str} {B g n c b off : Nat} {R : List Nat} {rs : List HoR} (h : OwS w0 w (bxS B [.slice (some ⟨g, 0, none⟩) n c] :: S) 77 2 (.slice (some ⟨g, 0, none⟩) n c) n (seS b off R)) (hn : R.length = n) (hr : HsRow w0 (some ⟨b, off, none⟩) rs) (hQ : ∀ x ∈ R, x < rs.length) (i j : Nat) (hi : i < n) (hj : j < n) (v : Bool) (hv : v = true ↔ lt3 (pk (hms rs)) (R.getD i 0) (R.getD j 0)) :
    ∀ W, Below w.heap.size w W → Calls Try.prog 92 #[.slice (some ⟨g, 0, none⟩) n c, .int .i64 (i : Nat), .int .i64 (j : Nat)] W fun e w' => e = .returned (.bool v) ∧ Below W.heap.size W w' := by
  intro W hW
  have q := implLess b off g rs R c i j W (hr.stays (h.sl.bel.trans (hW.mono h.sl.bel.size))) (FRw.of_own (h.below hW).own).1.crow hQ (by omega) (by omega)
  have e : decide (cmpS (hms rs) (R.getD i 0) (R.getD j 0) < 0) = v := by
    rw [Bool.eq_iff_iff, decide_eq_true_iff, cmpS_neg, hv]
  rw [hn, e] at q
  exact q
set_option maxRecDepth 100000 in
set_option maxHeartbeats 4000000 in
theorem implDown {w0 w : World} {S : List Str} {B g n c b off m : Nat} {Q : List Nat} {rs : List HoR} (h : OwS w0 w (bxS B [.slice (some ⟨g, 0, none⟩) n c] :: S) 77 2 (.slice (some ⟨g, 0, none⟩) n c) n (seS b off Q)) (hn : Q.length = n) (hnl : n ≤ 1048576) (hm : m ≤ n) (hr : HsRow w0 (some ⟨b, off, none⟩) rs) (hQ : ∀ x ∈ Q, x < rs.length) (hd : DnI (pk (hms rs)) Q m 0) :
    Calls Try.prog 49 #[qif B, .int .i64 0, .int .i64 (m : Nat)] w fun e w' => SomeB e ∧ ∃ R, R.Perm Q ∧ HpN (pk (hms rs)) R m ∧ (∀ t, m ≤ t → R.getD t 0 = Q.getD t 0) ∧ OwS w0 w' (bxS B [.slice (some ⟨g, 0, none⟩) n c] :: S) 77 2 (.slice (some ⟨g, 0, none⟩) n c) n (seS b off R) := by
  have H := Shut.mk (And.intro h (And.intro hn (And.intro hQ hd)))
  have HR := Shut.mk hr
  clear h hn hr hQ hd
  go_enter Try.func49, Try.ntmps49
  go_wp2_with fail
  go_loopw [7] (fun v wr => ∃ (k : Nat) (R : List Nat), v = .int .i64 (k : Nat) ∧ k ≤ m ∧ Shut (OwS w0 wr (bxS B [.slice (some ⟨g, 0, none⟩) n c] :: S) 77 2 (.slice (some ⟨g, 0, none⟩) n c) n (seS b off R) ∧ R.Perm Q ∧ DnI (pk (hms rs)) R m k ∧ ∀ t, m ≤ t → R.getD t 0 = Q.getD t 0)) (fun v _ => m - (intOf v).toNat)
  case atStart => exact ⟨0, Q, rfl, Nat.zero_le _, ⟨H.out.1, List.Perm.refl _, H.out.2.2.2, fun _ _ => rfl⟩⟩
  case round =>
    obtain ⟨k, R, rfl, hk, HW⟩ := hrel
    obtain ⟨j1, hj1⟩ : ∃ q, q = 2 * k + 1 := ⟨_, rfl⟩
    obtain ⟨j2, hj2⟩ : ∃ q, q = 2 * k + 2 := ⟨_, rfl⟩
    have i1 : 2 * (k : Int) + 1 = (j1 : Int) := by omega
    have i2 : (j1 : Int) + 1 = (j2 : Int) := by omega
    have i3 : ¬ (j1 : Int) < 0 := by omega
    have HJ := Shut.mk (And.intro hj1 hj2)
    have HRL : Shut (R.length = n) := ⟨by rw [HW.out.2.1.length_eq]; exact H.out.2.1⟩
    have HRX : Shut (∀ x ∈ R, x < rs.length) := ⟨perm_lt HW.out.2.1 H.out.2.2.1⟩
    have x0 := (HW.out.1.sl.bx 0 rfl 0 _ rfl).1
    have lB : B < wr.heap.size := (HW.out.1.sl.at 0 rfl).1
    have hlm : ∀ W, Below wr.heap.size wr W → ∀ m9, Sem.run Try.prog (method (m9 + 1) 55 (.pointer (some ⟨B, 0, none⟩)) "Less") W = .ok (92, .slice (some ⟨g, 0, none⟩) n c) W := fun W hW => less_meth B _ W ((hW.cell (p := ⟨B, 0, none⟩) lB).trans x0)
    have HLM := Shut.mk hlm
    have hl0 := hlm wr (Below.refl _ _)
    clear hlm x0 lB hj1 hj2
    by_cases c1 : j1 < m
    case neg =>
      have c2 : (m : Int) ≤ (j1 : Int) := by omega
      have HS : Shut (HpN (pk (hms rs)) R m) := ⟨HW.out.2.2.1.stop (fun q => by have := HJ.out.1; omega) (fun q => by have := HJ.out; omega)⟩
      clear HLM hl0
      go_wp2_with fail
      go_ret
      exact ⟨⟨_, rfl⟩, R, HW.out.2.1, HS.out, HW.out.2.2.2, HW.out.1⟩
    have c2 : ¬ (m : Int) ≤ (j1 : Int) := by omega
    have c4 : (j1 : Int) < (m : Int) := by omega
    by_cases c3 : j2 < m
    case neg =>
      have c5 : ¬ (j2 : Int) < (m : Int) := by omega
      by_cases d : lt3 (pk (hms rs)) (R.getD j1 0) (R.getD k 0)
      case neg =>
        have HL := Shut.mk (less_later HW.out.1 HRL.out HR.out HRX.out j1 k (by omega) (by have := HJ.out; omega) false ⟨fun h => (by cases h), fun h => absurd h d⟩)
        have HS : Shut (HpN (pk (hms rs)) R m) := ⟨HW.out.2.2.1.stop (fun q => by have e1 := HJ.out.1; rw [← e1]; exact d) (fun q => by have := HJ.out; omega)⟩
        clear d
        go_wp2_with (first  | (go_at_call 92; (apply Calls.mono; focus (with_reducible exact (HL.out _ (Below.refl _ _)))); rintro e w3 ⟨rfl, hb3⟩; have HB3 := Shut.mk hb3; clear hb3 hl0))
        go_ret
        exact ⟨⟨_, rfl⟩, R, HW.out.2.1, HS.out, HW.out.2.2.2, HW.out.1.below HB3.out⟩
      have HL := Shut.mk (less_later HW.out.1 HRL.out HR.out HRX.out j1 k (by omega) (by have := HJ.out; omega) true ⟨fun _ => d, fun _ => rfl⟩)
      have HU : Shut (DnI (pk (hms rs)) (sw R k j1) m j1) := ⟨HW.out.2.2.1.swap (by rw [par_is (by have := HJ.out; omega)]; have := HJ.out; omega) (by have := HJ.out; omega) (by omega) (by rw [HRL.out]; exact hm) d (by have e1 := HJ.out.1; rw [← e1]; exact (fun h => lt3_asymm h h)) (fun q => by have := HJ.out; omega)⟩
      have HP : Shut ((sw R k j1).Perm Q ∧ ∀ t, m ≤ t → (sw R k j1).getD t 0 = Q.getD t 0) := ⟨(sw_perm R k j1 (by have := HRL.out; have := HJ.out; omega) (by have := HRL.out; omega)).trans HW.out.2.1, fun t ht => by
        rw [sw_at R k j1 (by have := HRL.out; have := HJ.out; omega) (by have := HRL.out; omega) t, if_neg (by omega), if_neg (by have := HJ.out; omega)]
        exact HW.out.2.2.2 t ht⟩
      have hkj : k < j1 := (by have := HJ.out; omega)
      clear d
      go_wp2_with (first  | (go_at_call 92; (apply Calls.mono; focus (with_reducible exact (HL.out _ (Below.refl _ _)))); rintro e w3 ⟨rfl, hb3⟩; have HB3 := Shut.mk hb3; clear hb3 hl0; have hs3 := swap_meth B _ w3 ((HW.out.1.below HB3.out).sl.bx 0 rfl 0 _ rfl).1) | (go_at_call 95; refine (implSwap (HW.out.1.below HB3.out) HRL.out k j1 (by have := HJ.out; omega) (by omega)).mono ?_; rintro e w4 ⟨rfl, h4⟩; have HW4 := Shut.mk h4; clear h4))
      go_roundw
      case rel => exact ⟨j1, sw R k j1, rfl, by omega, ⟨HW4.out, HP.out.1, HU.out, HP.out.2⟩⟩
      case measure => simp [intOf]; omega
    have c5 : (j2 : Int) < (m : Int) := by omega
    by_cases d9 : lt3 (pk (hms rs)) (R.getD j2 0) (R.getD j1 0)
    case pos =>
      have HL9 := Shut.mk (less_later HW.out.1 HRL.out HR.out HRX.out j2 j1 (by omega) (by omega) true ⟨fun _ => d9, fun _ => rfl⟩)
      have HD9 := Shut.mk d9
      clear d9
      by_cases d : lt3 (pk (hms rs)) (R.getD j2 0) (R.getD k 0)
      case neg =>
        have HL := Shut.mk (less_later HW.out.1 HRL.out HR.out HRX.out j2 k (by omega) (by have := HJ.out; omega) false ⟨fun h => (by cases h), fun h => absurd h d⟩)
        have HS : Shut (HpN (pk (hms rs)) R m) := ⟨HW.out.2.2.1.stop (fun q => by have e1 := HJ.out.1; rw [← e1]; exact le3_trans d (lt3_asymm HD9.out)) (fun q => by have e2 := HJ.out.2; rw [← e2]; exact d)⟩
        clear d
        go_wp2_with (first | (go_at_call 92; (apply Calls.mono; focus (with_reducible exact (HL9.out _ (Below.refl _ _)))); rintro e w2 ⟨rfl, hb2⟩; have HB2 := Shut.mk hb2; clear hb2 hl0; have hl2 := HLM.out w2 HB2.out) | (go_at_call 92; (apply Calls.mono; focus (with_reducible exact (HL.out _ HB2.out))); rintro e w3 ⟨rfl, hb3⟩; have HB3 := Shut.mk (HB2.out.trans (hb3.mono HB2.out.size)); clear hb3 hl2))
        go_ret
        exact ⟨⟨_, rfl⟩, R, HW.out.2.1, HS.out, HW.out.2.2.2, HW.out.1.below HB3.out⟩
      have HL := Shut.mk (less_later HW.out.1 HRL.out HR.out HRX.out j2 k (by omega) (by have := HJ.out; omega) true ⟨fun _ => d, fun _ => rfl⟩)
      have HU : Shut (DnI (pk (hms rs)) (sw R k j2) m j2) := ⟨HW.out.2.2.1.swap (by rw [par_is (by have := HJ.out; omega)]; have := HJ.out; omega) (by have := HJ.out; omega) (by omega) (by rw [HRL.out]; exact hm) d (by have e1 := HJ.out.1; rw [← e1]; exact lt3_asymm HD9.out) (fun q => by have e2 := HJ.out.2; rw [← e2]; exact (fun h => lt3_asymm h h))⟩
      have HP : Shut ((sw R k j2).Perm Q ∧ ∀ t, m ≤ t → (sw R k j2).getD t 0 = Q.getD t 0) := ⟨(sw_perm R k j2 (by have := HRL.out; have := HJ.out; omega) (by have := HRL.out; omega)).trans HW.out.2.1, fun t ht => by
        rw [sw_at R k j2 (by have := HRL.out; have := HJ.out; omega) (by have := HRL.out; omega) t, if_neg (by omega), if_neg (by have := HJ.out; omega)]
        exact HW.out.2.2.2 t ht⟩
      have hkj : k < j2 := (by have := HJ.out; omega)
      clear d
      go_wp2_with (first | (go_at_call 92; (apply Calls.mono; focus (with_reducible exact (HL9.out _ (Below.refl _ _)))); rintro e w2 ⟨rfl, hb2⟩; have HB2 := Shut.mk hb2; clear hb2 hl0; have hl2 := HLM.out w2 HB2.out) | (go_at_call 92; (apply Calls.mono; focus (with_reducible exact (HL.out _ HB2.out))); rintro e w3 ⟨rfl, hb3⟩; have HB3 := Shut.mk (HB2.out.trans (hb3.mono HB2.out.size)); clear hb3 hl2; have hs3 := swap_meth B _ w3 ((HW.out.1.below HB3.out).sl.bx 0 rfl 0 _ rfl).1) | (go_at_call 95; refine (implSwap (HW.out.1.below HB3.out) HRL.out k j2 (by have := HJ.out; omega) (by omega)).mono ?_; rintro e w4 ⟨rfl, h4⟩; have HW4 := Shut.mk h4; clear h4))
      go_roundw
      case rel => exact ⟨j2, sw R k j2, rfl, by omega, ⟨HW4.out, HP.out.1, HU.out, HP.out.2⟩⟩
      case measure => simp [intOf]; omega
    have HL9 := Shut.mk (less_later HW.out.1 HRL.out HR.out HRX.out j2 j1 (by omega) (by omega) false ⟨fun h => (by cases h), fun h => absurd h d9⟩)
    have HD9 := Shut.mk d9
    clear d9
    by_cases d : lt3 (pk (hms rs)) (R.getD j1 0) (R.getD k 0)
    case neg =>
      have HL := Shut.mk (less_later HW.out.1 HRL.out HR.out HRX.out j1 k (by omega) (by have := HJ.out; omega) false ⟨fun h => (by cases h), fun h => absurd h d⟩)
      have HS : Shut (HpN (pk (hms rs)) R m) := ⟨HW.out.2.2.1.stop (fun q => by have e1 := HJ.out.1; rw [← e1]; exact d) (fun q => by have e2 := HJ.out.2; rw [← e2]; exact le3_trans d HD9.out)⟩
      clear d
      go_wp2_with (first | (go_at_call 92; (apply Calls.mono; focus (with_reducible exact (HL9.out _ (Below.refl _ _)))); rintro e w2 ⟨rfl, hb2⟩; have HB2 := Shut.mk hb2; clear hb2 hl0; have hl2 := HLM.out w2 HB2.out) | (go_at_call 92; (apply Calls.mono; focus (with_reducible exact (HL.out _ HB2.out))); rintro e w3 ⟨rfl, hb3⟩; have HB3 := Shut.mk (HB2.out.trans (hb3.mono HB2.out.size)); clear hb3 hl2))
      go_ret
      exact ⟨⟨_, rfl⟩, R, HW.out.2.1, HS.out, HW.out.2.2.2, HW.out.1.below HB3.out⟩
    have HL := Shut.mk (less_later HW.out.1 HRL.out HR.out HRX.out j1 k (by omega) (by have := HJ.out; omega) true ⟨fun _ => d, fun _ => rfl⟩)
    have HU : Shut (DnI (pk (hms rs)) (sw R k j1) m j1) := ⟨HW.out.2.2.1.swap (by rw [par_is (by have := HJ.out; omega)]; have := HJ.out; omega) (by have := HJ.out; omega) (by omega) (by rw [HRL.out]; exact hm) d (by have e1 := HJ.out.1; rw [← e1]; exact (fun h => lt3_asymm h h)) (fun q => by have e2 := HJ.out.2; rw [← e2]; exact HD9.out)⟩
    have HP : Shut ((sw R k j1).Perm Q ∧ ∀ t, m ≤ t → (sw R k j1).getD t 0 = Q.getD t 0) := ⟨(sw_perm R k j1 (by have := HRL.out; have := HJ.out; omega) (by have := HRL.out; omega)).trans HW.out.2.1, fun t ht => by
      rw [sw_at R k j1 (by have := HRL.out; have := HJ.out; omega) (by have := HRL.out; omega) t, if_neg (by omega), if_neg (by have := HJ.out; omega)]
      exact HW.out.2.2.2 t ht⟩
    have hkj : k < j1 := (by have := HJ.out; omega)
    clear d
    go_wp2_with (first | (go_at_call 92; (apply Calls.mono; focus (with_reducible exact (HL9.out _ (Below.refl _ _)))); rintro e w2 ⟨rfl, hb2⟩; have HB2 := Shut.mk hb2; clear hb2 hl0; have hl2 := HLM.out w2 HB2.out) | (go_at_call 92; (apply Calls.mono; focus (with_reducible exact (HL.out _ HB2.out))); rintro e w3 ⟨rfl, hb3⟩; have HB3 := Shut.mk (HB2.out.trans (hb3.mono HB2.out.size)); clear hb3 hl2; have hs3 := swap_meth B _ w3 ((HW.out.1.below HB3.out).sl.bx 0 rfl 0 _ rfl).1) | (go_at_call 95; refine (implSwap (HW.out.1.below HB3.out) HRL.out k j1 (by have := HJ.out; omega) (by omega)).mono ?_; rintro e w4 ⟨rfl, h4⟩; have HW4 := Shut.mk h4; clear h4))
    go_roundw
    case rel => exact ⟨j1, sw R k j1, rfl, by omega, ⟨HW4.out, HP.out.1, HU.out, HP.out.2⟩⟩
    case measure => simp [intOf]; omega
end Go.Proofs.Ytoaifodmjkhiiaa
/- GrwE: A region that draws its order, behind its last free operation: one alone may come up at a time: a call, or a value of the memory as it is. -/
namespace Go.Proofs.Ytoaifodmjkhiiaa
set_option maxRecDepth 100000
open Go.RowKit
section
variable {P : Program} {Q : Exit → Act → World → Prop} {md : Region.Mode}
/-- One alone may come up: a call; the rest behind it. -/
theorem wpA_mid {L r : List Oper} {i : Nat} {oi : Oper} {f : FuncId} {args : Array Value} {n : Nat} {l : Array Bool} {a : Act} {w : World} (hr : Region.ready md L.toArray l = [i]) (hi : L.drop i = oi :: r) (hw : Region.wanted oi (yielded L.toArray a.tmps) = true) (hy : (execOp a.eval oi).run P w = .ok (.enter f args) w)
    (h : Calls P f args w fun e y => ∃ v, e = .returned v ∧ wpAny P md L.toArray Q n (l.setIfInBounds i true) (a.put oi.dst v) y) : wpAny P md L.toArray Q (n + 1) l a w := by
  refine ⟨fun h => (by rw [hr] at h; cases h), fun j hj => ?_⟩
  rw [hr, List.mem_singleton] at hj
  subst hj
  unfold wpOp
  rw [at_drop hi]
  dsimp only
  rw [if_pos hw]
  refine Or.inl ?_
  unfold Oper.wp
  rw [hy]
  refine h.mono ?_
  rintro e y ⟨v, rfl, hq⟩
  exact hq
/-- One alone may come up: a value; the rest behind it. -/
theorem wpA_here {L r : List Oper} {i : Nat} {oi : Oper} {v : Value} {n : Nat} {l : Array Bool} {a : Act} {w y : World} (hr : Region.ready md L.toArray l = [i]) (hi : L.drop i = oi :: r) (hw : Region.wanted oi (yielded L.toArray a.tmps) = true) (hy : (execOp a.eval oi).run P w = .ok (.value v) y)
    (h : wpAny P md L.toArray Q n (l.setIfInBounds i true) (a.put oi.dst v) y) : wpAny P md L.toArray Q (n + 1) l a w := by
  refine ⟨fun h => (by rw [hr] at h; cases h), fun j hj => ?_⟩
  rw [hr, List.mem_singleton] at hj
  subst hj
  unfold wpOp
  rw [at_drop hi]
  dsimp only
  rw [if_pos hw]
  refine Or.inl ?_
  unfold Oper.wp
  rw [hy]
  exact h
/-- Two may come up, each a store: in either order. -/
theorem wpA_two {L r r' : List Oper} {i j : Nat} {oi oj : Oper} {n : Nat} {l : Array Bool} {a : Act} {w y z : World} (hr : Region.ready md L.toArray l = [i, j]) (hi : L.drop i = oi :: r) (hj : L.drop j = oj :: r') (hw : Region.wanted oi (yielded L.toArray a.tmps) = true) (hw' : Region.wanted oj (yielded L.toArray a.tmps) = true)
    (hy : (execOp a.eval oi).run P w = .ok .skip y) (hz : (execOp a.eval oj).run P w = .ok .skip z)
    (h : wpAny P md L.toArray Q n (l.setIfInBounds i true) (a.put oi.dst undef) y) (h' : wpAny P md L.toArray Q n (l.setIfInBounds j true) (a.put oj.dst undef) z) : wpAny P md L.toArray Q (n + 1) l a w := by
  refine ⟨fun h => (by rw [hr] at h; cases h), fun k hk => ?_⟩
  rw [hr] at hk
  rcases List.mem_cons.1 hk with rfl | hk
  · unfold wpOp
    rw [at_drop hi]
    dsimp only
    rw [if_pos hw]
    refine Or.inl ?_
    unfold Oper.wp
    rw [hy]
    exact h
  · rw [List.mem_singleton] at hk
    subst hk
    unfold wpOp
    rw [at_drop hj]
    dsimp only
    rw [if_pos hw']
    refine Or.inl ?_
    unfold Oper.wp
    rw [hz]
    exact h'
end
end Go.Proofs.Ytoaifodmjkhiiaa
/- GrwF: A region that draws its order: as GrwB, over any way in which later worlds may be told (written by gen/mkgrwf.py). -/
namespace Go.Proofs.Ytoaifodmjkhiiaa
set_option maxRecDepth 100000
open Go.RowKit

/-- A way to tell later worlds. -/
def Pre9 (R : World → World → Prop) : Prop := (∀ w, R w w) ∧ ∀ {a b c : World}, R a b → R b c → R a c
section
variable {R : World → World → Prop} {P : Program} {ops : Array Oper} {Q : Exit → Act → World → Prop} {md : Region.Mode}
/-- Whatever order is picked from here on, in whatever later world. -/
def wpR (R : World → World → Prop) (P : Program) (md : Region.Mode) (ops : Array Oper) (Q : Exit → Act → World → Prop) : Nat → Array Bool → Act → World → Prop
  | 0, l, a, w => Region.ready md ops l = [] ∧ ∀ x, R w x → Q .normal a x
  | n + 1, l, a, w => ∀ x, R w x → (Region.ready md ops l = [] → Q .normal a x) ∧
      ∀ i ∈ Region.ready md ops l, wpOp P ops Q i (fun a' y => R x y ∧ wpR R P md ops Q n (l.setIfInBounds i true) a' y) a x
theorem wpR_later (HR : Pre9 R) : ∀ (n : Nat) (l : Array Bool) (a : Act) (w y : World), R w y → wpR R P md ops Q n l a w → wpR R P md ops Q n l a y
  | 0, _, _, _, _, hy, h => ⟨h.1, fun x hx => h.2 x (HR.2 hy hx)⟩
  | _ + 1, _, _, _, _, hy, h => fun x hx => h x (HR.2 hy hx)
theorem wpAny_of_R (HR : Pre9 R) : ∀ (n : Nat) (l : Array Bool) (a : Act) (w : World), wpR R P md ops Q n l a w → wpAny P md ops Q n l a w
  | 0, _, _, w, h => ⟨h.1, h.2 w (HR.1 w)⟩
  | n + 1, _, _, w, h => ⟨(h w (HR.1 w)).1, fun i hi => wpOp_mono (fun a' y hh => wpAny_of_R HR n _ a' y hh.2) ((h w (HR.1 w)).2 i hi)⟩
/-- One value, in every later world; a call may make memory. -/
def YR (R : World → World → Prop) (P : Program) (ops : Array Oper) (o : Oper) (v : Value) (a : Act) (w : World) : Prop :=
  (Region.wanted o (yielded ops a.tmps) = true ∧ ∀ x, R w x → o.quietAt P a (R x) x v) ∨ (Region.wanted o (yielded ops a.tmps) = false ∧ v = undef)
theorem YR.later (HR : Pre9 R) {o : Oper} {v : Value} {a : Act} {w y : World} (h : YR R P ops o v a w) (hy : R w y) : YR R P ops o v a y :=
  h.imp (fun q => ⟨q.1, fun x hx => q.2 x (HR.2 hy hx)⟩) id
theorem YR.same {o : Oper} {v : Value} {a b : Act} {w : World} (h : YR R P ops o v a w) (he : execOp b.eval o = execOp a.eval o) (hw : Region.wanted o (yielded ops b.tmps) = Region.wanted o (yielded ops a.tmps)) : YR R P ops o v b w := by
  unfold YR Oper.quietAt at *
  rw [he, hw]
  exact h
theorem YR.op (HR : Pre9 R) {i : Nat} {o : Oper} {v : Value} {a : Act} {w x : World} {K : Act → World → Prop} (hi : ops[i]? = some o) (h : YR R P ops o v a w) (hx : R w x) (hk : ∀ y, R x y → K (a.put o.dst v) y) : wpOp P ops Q i K a x := by
  unfold wpOp
  rw [hi]
  dsimp only
  rcases h with ⟨hw, hq⟩ | ⟨hw, hv⟩
  · rw [if_pos hw]
    refine Or.inl ?_
    have q := hq x hx
    unfold Oper.quietAt at q
    unfold Oper.wp
    revert q
    cases (execOp a.eval o).run P x with
    | halt _ _ => exact False.elim
    | ok r y =>
      cases r with
      | value u => rintro ⟨rfl, rfl⟩; exact hk _ (HR.1 _)
      | skip => rintro ⟨rfl, rfl⟩; exact hk _ (HR.1 _)
      | enter f args => rintro ⟨rfl, hc⟩; exact hc.mono (by rintro _ z ⟨rfl, hz⟩; exact hk _ hz)
      | _ => exact False.elim
  · rw [if_neg (by rw [hw]; exact Bool.false_ne_true), ← hv]
    exact hk _ (HR.1 _)
/-- An operation beside another that has its value already: the library's law for no world at all, and what the frame may be behind it. -/
theorem op_besideR {j : Nat} {oi oj : Oper} {v : Value} {w : World} (hj : ops[j]? = some oj) (hap : oi.apart ops oj = true) (hsi : ∀ cs b, oi.op ≠ .select cs b) (hsj : ∀ cs b, oj.op ≠ .select cs b)
    (hQ : ∀ c a w, Q (.panic c) (a.put oi.dst v) w → Q (.panic c) a w) {K : Act → World → Prop} {a : Act} {x : World} (hy : YR R P ops oi v a w) (h : wpOp P ops Q j K (a.put oi.dst v) x) :
    wpOp P ops Q j (fun a' y => YR R P ops oi v a' w ∧ K (a'.put oi.dst v) y) a x := by
  have h3 := (Oper.apart_spec hap).2.2
  refine wpOp_mono ?_ (op_frame hj (wpOp_putIf (S := fun _ => False) hj hap hsi hsj hQ (hy.imp (fun q => ⟨q.1, fun _ hf => hf.elim⟩) id) h))
  rintro b y ⟨⟨u, rfl | ⟨f, rfl⟩⟩, -, hk⟩
  · exact ⟨hy.same (execOp_put oi hsi a oj.dst u h3) (wanted_put oi a oj.dst u h3), hk⟩
  · have q : YR R P ops oi v { a with defers := f :: a.defers } w := hy.same rfl rfl
    exact ⟨q.same (execOp_put oi hsi _ oj.dst u h3) (wanted_put oi _ oj.dst u h3), hk⟩
theorem wpR_first (HR : Pre9 R) {i : Nat} {oi : Oper} {v : Value} (hi : ops[i]? = some oi) (hsel : ∀ (j : Nat) (o : Oper) cs b, ops[j]? = some o → o.op ≠ .select cs b) (hQ : ∀ c a w, Q (.panic c) (a.put oi.dst v) w → Q (.panic c) a w) :
    ∀ (n : Nat) (l : Array Bool) (a : Act) (w : World), (∀ j oj, ops[j]? = some oj → j ≠ i → l.getD j true = false → (∀ e ∈ oj.after, Region.binds md e = true → e.on ≠ i) → oi.apart ops oj = true) →
      i ∈ Region.ready md ops l → YR R P ops oi v a w → wpR R P md ops Q n (l.setIfInBounds i true) (a.put oi.dst v) w → wpR R P md ops Q (n + 1) l a w := by
  intro n
  induction n with
  | zero =>
    intro l a w _ hr hy H x hx
    refine ⟨fun h => (by rw [h] at hr; cases hr), fun j hj => ?_⟩
    by_cases hji : j = i
    · subst hji
      exact hy.op HR hi hx fun y hxy => ⟨hxy, wpR_later HR 0 _ _ _ _ (HR.2 hx hxy) H⟩
    · have q := ready_mono hj hji
      rw [H.1] at q
      cases q
  | succ n ih =>
    intro l a w hfree hr hy H x hx
    refine ⟨fun h => (by rw [h] at hr; cases hr), fun j hj => ?_⟩
    by_cases hji : j = i
    · subst hji
      exact hy.op HR hi hx fun y hxy => ⟨hxy, wpR_later HR (n + 1) _ _ _ _ (HR.2 hx hxy) H⟩
    · obtain ⟨hun, oj, hoj, -⟩ := mem_ready.1 hj
      have q := op_besideR hoj (hfree j oj hoj hji hun (ready_free hr hj hoj)) (fun cs b => hsel i oi cs b hi) (fun cs b => hsel j oj cs b hoj) hQ hy ((H x hx).2 j (ready_mono hj hji))
      refine wpOp_mono (fun b y hb => ⟨hb.2.1, ih (l.setIfInBounds j true) b y (fun k ok hk hki hku hno => hfree k ok hk hki ?_ hno) (ready_mono hr (Ne.symm hji)) (hb.1.later HR (HR.2 hx hb.2.1)) ?_⟩) q
      · by_cases hjk : j = k
        · subst hjk; exact hun
        · rw [getD_set_ne true hjk] at hku; exact hku
      · rw [Array.setIfInBounds_comm _ _ hji]
        exact hb.2.2
/-- Take number i: a value. -/
theorem wpR_val (HR : Pre9 R) {L r : List Oper} {i : Nat} {oi : Oper} {v : Value} {n : Nat} {l : Array Bool} {a : Act} {w : World} (hi : L.drop i = oi :: r) (hs : Region.noSelect L.toArray = true) (hf : Region.free md L.toArray l i = true) (hr : (Region.ready md L.toArray l).contains i = true)
    (hQ : ∀ c a w, Q (.panic c) (a.put oi.dst v) w → Q (.panic c) a w) (hw : Region.wanted oi (yielded L.toArray a.tmps) = true) (hy : ∀ x, R w x → (execOp a.eval oi).run P x = .ok (.value v) x)
    (h : wpR R P md L.toArray Q n (l.setIfInBounds i true) (a.put oi.dst v) w) : wpR R P md L.toArray Q (n + 1) l a w :=
  wpR_first HR (at_drop hi) (Region.noSelect_spec hs) hQ n l a w (Region.free_spec (at_drop hi) hf) (by simpa using hr) (Or.inl ⟨hw, fun x hx => by unfold Oper.quietAt; rw [hy x hx]; exact ⟨rfl, rfl⟩⟩) h
/-- Take number i: a call. -/
theorem wpR_call (HR : Pre9 R) {L r : List Oper} {i : Nat} {oi : Oper} {v : Value} {f : FuncId} {args : Array Value} {n : Nat} {l : Array Bool} {a : Act} {w : World} (hi : L.drop i = oi :: r) (hs : Region.noSelect L.toArray = true) (hf : Region.free md L.toArray l i = true) (hr : (Region.ready md L.toArray l).contains i = true)
    (hQ : ∀ c a w, Q (.panic c) (a.put oi.dst v) w → Q (.panic c) a w) (hw : Region.wanted oi (yielded L.toArray a.tmps) = true) (hy : ∀ x, R w x → (execOp a.eval oi).run P x = .ok (.enter f args) x)
    (hc : ∀ x, R w x → Calls P f args x fun e y => e = .returned v ∧ R x y)
    (h : wpR R P md L.toArray Q n (l.setIfInBounds i true) (a.put oi.dst v) w) : wpR R P md L.toArray Q (n + 1) l a w :=
  wpR_first HR (at_drop hi) (Region.noSelect_spec hs) hQ n l a w (Region.free_spec (at_drop hi) hf) (by simpa using hr) (Or.inl ⟨hw, fun x hx => by unfold Oper.quietAt; rw [hy x hx]; exact ⟨rfl, hc x hx⟩⟩) h
/-- Take number i: it is not wanted. -/
theorem wpR_skip (HR : Pre9 R) {L r : List Oper} {i : Nat} {oi : Oper} {n : Nat} {l : Array Bool} {a : Act} {w : World} (hi : L.drop i = oi :: r) (hs : Region.noSelect L.toArray = true) (hf : Region.free md L.toArray l i = true) (hr : (Region.ready md L.toArray l).contains i = true)
    (hQ : ∀ c a w, Q (.panic c) (a.put oi.dst undef) w → Q (.panic c) a w) (hw : Region.wanted oi (yielded L.toArray a.tmps) = false) (h : wpR R P md L.toArray Q n (l.setIfInBounds i true) (a.put oi.dst undef) w) : wpR R P md L.toArray Q (n + 1) l a w :=
  wpR_first HR (at_drop hi) (Region.noSelect_spec hs) hQ n l a w (Region.free_spec (at_drop hi) hf) (by simpa using hr) (Or.inr ⟨hw, rfl⟩) h
/-- One alone may come up: a call. -/
theorem wpR_onecall {L r : List Oper} {i : Nat} {oi : Oper} {f : FuncId} {args : Array Value} {n : Nat} {l : Array Bool} {a : Act} {w : World} (hr : Region.ready md L.toArray l = [i]) (hi : L.drop i = oi :: r) (hw : Region.wanted oi (yielded L.toArray a.tmps) = true)
    (hy : ∀ x, R w x → (execOp a.eval oi).run P x = .ok (.enter f args) x)
    (h : ∀ x, R w x → Calls P f args x fun e y => ∃ v, e = .returned v ∧ R x y ∧ wpR R P md L.toArray Q n (l.setIfInBounds i true) (a.put oi.dst v) y) : wpR R P md L.toArray Q (n + 1) l a w := by
  intro x hx
  rw [hr]
  refine ⟨fun h => (by cases h), fun j hj => ?_⟩
  rw [List.mem_singleton] at hj
  subst hj
  unfold wpOp
  rw [at_drop hi]
  dsimp only
  rw [if_pos hw]
  refine Or.inl ?_
  unfold Oper.wp
  rw [hy x hx]
  refine (h x hx).mono ?_
  rintro e y ⟨v, rfl, hq⟩
  exact hq
/-- One alone may come up: a value, or a box. -/
theorem wpR_one {L r : List Oper} {i : Nat} {oi : Oper} {n : Nat} {l : Array Bool} {a : Act} {w : World} (hr : Region.ready md L.toArray l = [i]) (hi : L.drop i = oi :: r) (hw : Region.wanted oi (yielded L.toArray a.tmps) = true)
    (h : ∀ x, R w x → ∃ (v : Value) (y : World), (execOp a.eval oi).run P x = .ok (.value v) y ∧ R x y ∧ wpR R P md L.toArray Q n (l.setIfInBounds i true) (a.put oi.dst v) y) : wpR R P md L.toArray Q (n + 1) l a w := by
  intro x hx
  rw [hr]
  refine ⟨fun h => (by cases h), fun j hj => ?_⟩
  rw [List.mem_singleton] at hj
  subst hj
  unfold wpOp
  rw [at_drop hi]
  dsimp only
  rw [if_pos hw]
  refine Or.inl ?_
  unfold Oper.wp
  obtain ⟨v, y, h1, h2⟩ := h x hx
  rw [h1]
  exact h2
theorem wpR_done {l : Array Bool} {a : Act} {w : World} (hr : Region.ready md ops l = []) (h : ∀ x, R w x → Q .normal a x) : ∀ n, wpR R P md ops Q n l a w
  | 0 => ⟨hr, h⟩
  | _ + 1 => fun x hx => ⟨fun _ => h x hx, by rw [hr]; simp⟩
theorem wp_region_R (R : World → World → Prop) (HR : Pre9 R) {id : Nat} {a : Act} {w : World} (hm : P.follows .mixedOrders = true) (h : wpR R P .any ops Q ops.size (Array.replicate ops.size false) a w.drew) : (Code.region id ops true).wp P Q a w :=
  wp_region_any hm (wpAny_of_R HR _ _ _ _ h)
end
end Go.Proofs.Ytoaifodmjkhiiaa
/- GrwG: A region that draws its order: as GrwD, over any way in which later worlds may be told (written by gen/mkgrwg.py). -/
namespace Go.Proofs.Ytoaifodmjkhiiaa
set_option maxRecDepth 100000
open Go.RowKit
section
variable {R : World → World → Prop} {P : Program} {ops : Array Oper} {Q : Exit → Act → World → Prop} {md : Region.Mode} {tl : Nat → Bool}
/-- Whatever order is picked from here on, in whatever later world, until only the last ones are left. -/
def wpE (R : World → World → Prop) (P : Program) (md : Region.Mode) (ops : Array Oper) (Q : Exit → Act → World → Prop) (tl : Nat → Bool) : Nat → Array Bool → Act → World → Prop
  | 0, l, a, w => ∀ x, R w x → wpAny P md ops Q 0 l a x
  | n + 1, l, a, w => (tailedD tl ops l = true ∧ ∀ x, R w x → wpAny P md ops Q (n + 1) l a x) ∨ (∀ x, R w x → (Region.ready md ops l = [] → Q .normal a x) ∧
      ∀ i ∈ Region.ready md ops l, wpOp P ops Q i (fun a' y => R x y ∧ wpE R P md ops Q tl n (l.setIfInBounds i true) a' y) a x)
theorem wpE_later (HR : Pre9 R) : ∀ (n : Nat) (l : Array Bool) (a : Act) (w y : World), R w y → wpE R P md ops Q tl n l a w → wpE R P md ops Q tl n l a y
  | 0, _, _, _, _, hy, h => fun x hx => h x (HR.2 hy hx)
  | _ + 1, _, _, _, _, hy, h => h.imp (fun q => ⟨q.1, fun x hx => q.2 x (HR.2 hy hx)⟩) (fun q x hx => q x (HR.2 hy hx))
theorem wpAny_of_E (HR : Pre9 R) : ∀ (n : Nat) (l : Array Bool) (a : Act) (w : World), wpE R P md ops Q tl n l a w → wpAny P md ops Q n l a w
  | 0, _, _, w, h => h w (HR.1 w)
  | n + 1, _, _, w, h => by
    rcases h with h | h
    · exact h.2 w (HR.1 w)
    · exact ⟨(h w (HR.1 w)).1, fun i hi => wpOp_mono (fun a' y hh => wpAny_of_E HR n _ a' y hh.2) ((h w (HR.1 w)).2 i hi)⟩
theorem wpE_first (HR : Pre9 R) {i : Nat} {oi : Oper} {v : Value} {C : List Nat} (hi : ops[i]? = some oi) (hsel : ∀ (j : Nat) (o : Oper) cs b, ops[j]? = some o → o.op ≠ .select cs b) (hQ : ∀ c a w, Q (.panic c) (a.put oi.dst v) w → Q (.panic c) a w) :
    ∀ (n : Nat) (l : Array Bool) (a : Act) (w : World), waitsD md tl ops l i C = true → (∀ j oj, ops[j]? = some oj → j ≠ i → l.getD j true = false → (∀ e ∈ oj.after, Region.binds md e = true → e.on ≠ i) → oi.apart ops oj = true) →
      i ∈ Region.ready md ops l → YR R P ops oi v a w → wpE R P md ops Q tl n (l.setIfInBounds i true) (a.put oi.dst v) w → wpE R P md ops Q tl (n + 1) l a w := by
  intro n
  induction n with
  | zero =>
    intro l a w _ _ hr hy H
    refine .inr fun x hx => ⟨fun h => (by rw [h] at hr; cases hr), fun j hj => ?_⟩
    by_cases hji : j = i
    · subst hji
      exact hy.op HR hi hx fun y hxy => ⟨hxy, wpE_later HR 0 _ _ _ _ (HR.2 hx hxy) H⟩
    · have q := ready_mono hj hji
      rw [(H w (HR.1 w)).1] at q
      cases q
  | succ n ih =>
    intro l a w hwt hfree hr hy H
    refine .inr fun x hx => ⟨fun h => (by rw [h] at hr; cases hr), fun j hj => ?_⟩
    by_cases hji : j = i
    · subst hji
      exact hy.op HR hi hx fun y hxy => ⟨hxy, wpE_later HR (n + 1) _ _ _ _ (HR.2 hx hxy) H⟩
    · obtain ⟨hun, oj, hoj, -⟩ := mem_ready.1 hj
      have hjC : j ∉ C := fun hc => waitsD_spec hwt (mem_ready.1 hr).1 j hc hj
      rcases H with H | H
      · have hju : (l.setIfInBounds i true).getD j true = false := by rw [getD_set_ne true (Ne.symm hji)]; exact hun
        have hjs := (Array.getElem?_eq_some_iff.1 hoj).1
        have hjm := tailedD_spec H.1 hju hjs
        exact absurd (waitsD_last hwt hjm hun hjs) hjC
      · have q := op_besideR hoj (hfree j oj hoj hji hun (ready_free hr hj hoj)) (fun cs b => hsel i oi cs b hi) (fun cs b => hsel j oj cs b hoj) hQ hy ((H x hx).2 j (ready_mono hj hji))
        refine wpOp_mono (fun b y hb => ⟨hb.2.1, ih (l.setIfInBounds j true) b y (waitsD_step hwt hjC) (fun k ok hk hki hku hno => hfree k ok hk hki ?_ hno) (ready_mono hr (Ne.symm hji)) (hb.1.later HR (HR.2 hx hb.2.1)) ?_⟩) q
        · by_cases hjk : j = k
          · subst hjk; exact hun
          · rw [getD_set_ne true hjk] at hku; exact hku
        · rw [Array.setIfInBounds_comm _ _ hji]
          exact hb.2.2
theorem wpE_tail {l : Array Bool} {a : Act} {w : World} (ht : tailedD tl ops l = true) : ∀ {n : Nat}, (∀ x, R w x → wpAny P md ops Q n l a x) → wpE R P md ops Q tl n l a w
  | 0, h => h
  | _ + 1, h => .inl ⟨ht, h⟩
theorem wpE_done {l : Array Bool} {a : Act} {w : World} (hr : Region.ready md ops l = []) (h : ∀ x, R w x → Q .normal a x) : ∀ n, wpE R P md ops Q tl n l a w
  | 0 => fun x hx => ⟨hr, h x hx⟩
  | _ + 1 => .inr fun x hx => ⟨fun _ => h x hx, by rw [hr]; simp⟩
theorem wp_region_E (R : World → World → Prop) (HR : Pre9 R) {id : Nat} {a : Act} {w : World} (tl : Nat → Bool) (hm : P.follows .mixedOrders = true) (h : wpE R P .any ops Q tl ops.size (Array.replicate ops.size false) a w.drew) : (Code.region id ops true).wp P Q a w :=
  wp_region_any hm (wpAny_of_E HR _ _ _ _ h)
end
section
variable {R : World → World → Prop} {P : Program} {Q : Exit → Act → World → Prop} {md : Region.Mode} {tl : Nat → Bool}
/-- Take number i: a value. -/
theorem wpE_val (HR : Pre9 R) {L r : List Oper} {i : Nat} {oi : Oper} {v : Value} {n : Nat} {l : Array Bool} {a : Act} {w : World} (hi : L.drop i = oi :: r) (hs : Region.noSelect L.toArray = true) (hf : Region.free md L.toArray l i = true) (hr : (Region.ready md L.toArray l).contains i = true) (ht : waitsD md tl L.toArray l i (clo md L.toArray l i) = true)
    (hQ : ∀ c a w, Q (.panic c) (a.put oi.dst v) w → Q (.panic c) a w) (hw : Region.wanted oi (yielded L.toArray a.tmps) = true) (hy : ∀ x, R w x → (execOp a.eval oi).run P x = .ok (.value v) x)
    (h : wpE R P md L.toArray Q tl n (l.setIfInBounds i true) (a.put oi.dst v) w) : wpE R P md L.toArray Q tl (n + 1) l a w :=
  wpE_first HR (at_drop hi) (Region.noSelect_spec hs) hQ n l a w ht (Region.free_spec (at_drop hi) hf) (by simpa using hr) (Or.inl ⟨hw, fun x hx => by unfold Oper.quietAt; rw [hy x hx]; exact ⟨rfl, rfl⟩⟩) h
/-- Take number i: a call. -/
theorem wpE_call (HR : Pre9 R) {L r : List Oper} {i : Nat} {oi : Oper} {v : Value} {f : FuncId} {args : Array Value} {n : Nat} {l : Array Bool} {a : Act} {w : World} (hi : L.drop i = oi :: r) (hs : Region.noSelect L.toArray = true) (hf : Region.free md L.toArray l i = true) (hr : (Region.ready md L.toArray l).contains i = true) (ht : waitsD md tl L.toArray l i (clo md L.toArray l i) = true)
    (hQ : ∀ c a w, Q (.panic c) (a.put oi.dst v) w → Q (.panic c) a w) (hw : Region.wanted oi (yielded L.toArray a.tmps) = true) (hy : ∀ x, R w x → (execOp a.eval oi).run P x = .ok (.enter f args) x)
    (hc : ∀ x, R w x → Calls P f args x fun e y => e = .returned v ∧ R x y)
    (h : wpE R P md L.toArray Q tl n (l.setIfInBounds i true) (a.put oi.dst v) w) : wpE R P md L.toArray Q tl (n + 1) l a w :=
  wpE_first HR (at_drop hi) (Region.noSelect_spec hs) hQ n l a w ht (Region.free_spec (at_drop hi) hf) (by simpa using hr) (Or.inl ⟨hw, fun x hx => by unfold Oper.quietAt; rw [hy x hx]; exact ⟨rfl, hc x hx⟩⟩) h
/-- Take number i: it is not wanted. -/
theorem wpE_skip (HR : Pre9 R) {L r : List Oper} {i : Nat} {oi : Oper} {n : Nat} {l : Array Bool} {a : Act} {w : World} (hi : L.drop i = oi :: r) (hs : Region.noSelect L.toArray = true) (hf : Region.free md L.toArray l i = true) (hr : (Region.ready md L.toArray l).contains i = true) (ht : waitsD md tl L.toArray l i (clo md L.toArray l i) = true)
    (hQ : ∀ c a w, Q (.panic c) (a.put oi.dst undef) w → Q (.panic c) a w) (hw : Region.wanted oi (yielded L.toArray a.tmps) = false)
    (h : wpE R P md L.toArray Q tl n (l.setIfInBounds i true) (a.put oi.dst undef) w) : wpE R P md L.toArray Q tl (n + 1) l a w :=
  wpE_first HR (at_drop hi) (Region.noSelect_spec hs) hQ n l a w ht (Region.free_spec (at_drop hi) hf) (by simpa using hr) (Or.inr ⟨hw, rfl⟩) h
/-- One alone may come up, and answers a value; memory may be made. -/
theorem wpE_one {L r : List Oper} {i : Nat} {oi : Oper} {n : Nat} {l : Array Bool} {a : Act} {w : World} (hr : Region.ready md L.toArray l = [i]) (hi : L.drop i = oi :: r) (hw : Region.wanted oi (yielded L.toArray a.tmps) = true)
    (h : ∀ x, R w x → ∃ (v : Value) (y : World), (execOp a.eval oi).run P x = .ok (.value v) y ∧ R x y ∧ wpE R P md L.toArray Q tl n (l.setIfInBounds i true) (a.put oi.dst v) y) : wpE R P md L.toArray Q tl (n + 1) l a w := by
  refine .inr fun x hx => ?_
  rw [hr]
  refine ⟨fun h => (by cases h), fun j hj => ?_⟩
  rw [List.mem_singleton] at hj
  subst hj
  obtain ⟨v, y, h1, h2, h3⟩ := h x hx
  unfold wpOp
  rw [at_drop hi]
  dsimp only
  rw [if_pos hw]
  refine Or.inl ?_
  unfold Oper.wp
  rw [h1]
  exact ⟨h2, h3⟩
/-- One alone may come up: a call that answers what it likes and only makes memory. -/
theorem wpE_onecall {L r : List Oper} {i : Nat} {oi : Oper} {f : FuncId} {args : Array Value} {n : Nat} {l : Array Bool} {a : Act} {w : World} (hr : Region.ready md L.toArray l = [i]) (hi : L.drop i = oi :: r) (hw : Region.wanted oi (yielded L.toArray a.tmps) = true)
    (hy : ∀ x, R w x → (execOp a.eval oi).run P x = .ok (.enter f args) x)
    (h : ∀ x, R w x → Calls P f args x fun e y => ∃ v, e = .returned v ∧ R x y ∧ wpE R P md L.toArray Q tl n (l.setIfInBounds i true) (a.put oi.dst v) y) : wpE R P md L.toArray Q tl (n + 1) l a w := by
  refine .inr fun x hx => ?_
  rw [hr]
  refine ⟨fun h => (by cases h), fun j hj => ?_⟩
  rw [List.mem_singleton] at hj
  subst hj
  unfold wpOp
  rw [at_drop hi]
  dsimp only
  rw [if_pos hw]
  refine Or.inl ?_
  unfold Oper.wp
  rw [hy x hx]
  exact (h x hx).mono (by rintro e y ⟨v, rfl, h1, h2⟩; exact ⟨h1, h2⟩)
/-- One of the last ones that is a value in every world is taken first. -/
theorem wpE_purely (HR : Pre9 R) {ops : Array Oper} {i : Nat} {oi : Oper} {v : Value} (hi : ops[i]? = some oi) (hti : tl i = true) (hsel : ∀ (j : Nat) (o : Oper) cs b, ops[j]? = some o → o.op ≠ .select cs b) (hQ : ∀ c a w, Q (.panic c) (a.put oi.dst v) w → Q (.panic c) a w) :
    ∀ (n : Nat) (l : Array Bool) (a : Act) (w : World), (∀ j oj, ops[j]? = some oj → j ≠ i → l.getD j true = false → (∀ e ∈ oj.after, Region.binds md e = true → e.on ≠ i) → oi.apart ops oj = true) →
      i ∈ Region.ready md ops l → Region.wanted oi (yielded ops a.tmps) = true → (∀ x, (execOp a.eval oi).run P x = .ok (.value v) x) → wpE R P md ops Q tl n (l.setIfInBounds i true) (a.put oi.dst v) w → wpE R P md ops Q tl (n + 1) l a w := by
  have htail : ∀ {l : Array Bool}, tailedD tl ops (l.setIfInBounds i true) = true → tailedD tl ops l = true := fun {l} h => by
    unfold tailedD at h ⊢
    refine List.all_eq_true.2 fun j hj => ?_
    by_cases e : i = j
    · subst e
      rw [hti, Bool.or_true]
    · have := List.all_eq_true.1 h j hj
      rw [getD_set_ne true e] at this
      exact this
  intro n
  induction n with
  | zero =>
    intro l a w _ hr hw hy H
    refine .inr fun x hx => ⟨fun h => (by rw [h] at hr; cases hr), fun j hj => ?_⟩
    by_cases hji : j = i
    · subst hji
      have hyl : YR R P ops oi v a w := Or.inl ⟨hw, fun x _ => by unfold Oper.quietAt; rw [hy x]; exact ⟨rfl, rfl⟩⟩
      exact hyl.op HR hi hx fun y hxy => ⟨hxy, wpE_later HR 0 _ _ _ _ (HR.2 hx hxy) H⟩
    · have q := ready_mono hj hji
      rw [(H w (HR.1 w)).1] at q
      cases q
  | succ n ih =>
    intro l a w hfree hr hw hy H
    rcases H with H | H
    · exact .inl ⟨htail H.1, fun x hx => wpA_first hi hsel hQ _ l a x hfree hr hw hy (H.2 x hx)⟩
    · have hyl : YR R P ops oi v a w := Or.inl ⟨hw, fun x _ => by unfold Oper.quietAt; rw [hy x]; exact ⟨rfl, rfl⟩⟩
      refine .inr fun x hx => ⟨fun h => (by rw [h] at hr; cases hr), fun j hj => ?_⟩
      by_cases hji : j = i
      · subst hji
        exact hyl.op HR hi hx fun y hxy => ⟨hxy, wpE_later HR (n + 1) _ _ _ _ (HR.2 hx hxy) (.inr H)⟩
      · obtain ⟨hun, oj, hoj, -⟩ := mem_ready.1 hj
        have hap := hfree j oj hoj hji hun (ready_free hr hj hoj)
        have h3 := (Oper.apart_spec hap).2.2
        have q := op_frame hoj (wpOp_putIf (S := fun _ => False) hoj hap (fun cs b => hsel i oi cs b hi) (fun cs b => hsel j oj cs b hoj) hQ (Or.inl ⟨hw, fun _ hf => hf.elim⟩) ((H x hx).2 j (ready_mono hj hji)))
        refine wpOp_mono ?_ q
        have step : ∀ (b : Act) (y : World), R x y → execOp b.eval oi = execOp a.eval oi → Region.wanted oi (yielded ops b.tmps) = Region.wanted oi (yielded ops a.tmps) → wpE R P md ops Q tl n ((l.setIfInBounds i true).setIfInBounds j true) (b.put oi.dst v) y → R x y ∧ wpE R P md ops Q tl (n + 1) (l.setIfInBounds j true) b y := fun b y hl e1 e2 hk => by
          refine ⟨hl, ih (l.setIfInBounds j true) b y (fun k ok hk hki hku hno => hfree k ok hk hki ?_ hno) (ready_mono hr (Ne.symm hji)) (by rw [e2]; exact hw) (fun x => by rw [e1]; exact hy x) ?_⟩
          · by_cases hjk : j = k
            · subst hjk; exact hun
            · rw [getD_set_ne true hjk] at hku; exact hku
          · rw [Array.setIfInBounds_comm _ _ hji]
            exact hk
        rintro b y ⟨⟨u, rfl | ⟨f, rfl⟩⟩, -, hl, hk⟩
        · exact step _ _ hl (execOp_put oi (fun cs b => hsel i oi cs b hi) a oj.dst u h3) (wanted_put oi a oj.dst u h3) hk
        · exact step _ _ hl (execOp_put oi (fun cs b => hsel i oi cs b hi) { a with defers := f :: a.defers } oj.dst u h3) (wanted_put oi { a with defers := f :: a.defers } oj.dst u h3) hk
theorem wpE_pure (HR : Pre9 R) {L r : List Oper} {i : Nat} {oi : Oper} {v : Value} {n : Nat} {l : Array Bool} {a : Act} {w : World} (hi : L.drop i = oi :: r) (hti : tl i = true) (hs : Region.noSelect L.toArray = true) (hf : Region.free md L.toArray l i = true) (hr : (Region.ready md L.toArray l).contains i = true)
    (hQ : ∀ c a w, Q (.panic c) (a.put oi.dst v) w → Q (.panic c) a w) (hw : Region.wanted oi (yielded L.toArray a.tmps) = true) (hy : ∀ x, (execOp a.eval oi).run P x = .ok (.value v) x)
    (h : wpE R P md L.toArray Q tl n (l.setIfInBounds i true) (a.put oi.dst v) w) : wpE R P md L.toArray Q tl (n + 1) l a w :=
  wpE_purely HR (at_drop hi) hti (Region.noSelect_spec hs) hQ n l a w (Region.free_spec (at_drop hi) hf) (by simpa using hr) hw hy h
end
end Go.Proofs.Ytoaifodmjkhiiaa
/- HeD: The program's queue: one more, one less (written by gen/mkhed.py). -/
namespace Go.Proofs.Ytoaifodmjkhiiaa
set_option maxRecDepth 100000
open Go.RowKit BigFrame
attribute [local go_sem ↓] Go.wp_at_zero Go.wp_at_succ

theorem infoSeat : (Try.prog.info? 77).map (fun i => (i.zero, i.size, i.bytes)) = some (some (.agg #[.pointer none, .int .i64 0]), 2, 16) := by kernel_rfl
theorem later9 : Pre9 Later := ⟨Later.refl, fun h k => Later.trans h k⟩
theorem ta_seat (v : Value) (x : World) : Sem.run Try.prog (Instr.typeAssert (.iface 77 v) 20 77 false) x = .ok v x := by kernel_rfl
attribute [local go_sem] ta_seat
theorem fd_seat (p : Option Addr) (y : Value) (x : World) : Sem.run Try.prog (Instr.field 77 (.agg #[.pointer p, y]) 0) x = .ok (.pointer p) x := by kernel_rfl
attribute [local go_sem] fd_seat
theorem run_app {P : Program} {w y : World} {o : Oper} {a : Act} {s x : Operand} {t : TypeId} {v1 v2 v : Value} (ho : o.op = .call { callee := .builtin .append, args := #[s, x], argTypes := #[t, t] }) (hs : a.eval s = v1) (hx : a.eval x = v2) (hr : (Builtin.append_ #[t, t] o.type #[v1, v2]).run P w = .ok v y) : (execOp a.eval o).run P w = .ok (.value v) y := by
  unfold execOp
  simp only [ho, resolve, invoke, builtin, Sem.run_bind, Sem.run_pure, Result.andThen_ok, List.map_toArray, List.map_cons, List.map_nil, hs, hx, hr]
theorem seS_more (b off : Nat) (Q : List Nat) (t : Nat) : seS b off Q ++ seC b off t = seS b off (Q ++ [t]) := by simp [seS]
set_option maxRecDepth 100000 in
set_option maxHeartbeats 2000000 in
theorem implQPush {w0 w : World} {S : List Str} {B n b off : Nat} {v : Value} {Q : List Nat} (h : OwS w0 w (bxS B [v] :: S) 77 2 v n (seS b off Q)) (hn : n ≤ 1048576) (t : Nat) :
    Calls Try.prog 94 #[.pointer (some ⟨B, 0, none⟩), .iface 77 (sev b off t)] w fun e w' => e = .returned (.tuple #[]) ∧ ∃ g c, OwS w0 w' (bxS B [(.slice (some ⟨g, 0, none⟩) (n + 1) c)] :: S) 77 2 (.slice (some ⟨g, 0, none⟩) (n + 1) c) (n + 1) (seS b off (Q ++ [t])) := by
  obtain ⟨i0, hin, hz0, hz1, hz2⟩ := info_parts infoSeat
  have H := Shut.mk h
  obtain ⟨va, vc, rfl⟩ := own_row_slice h.own
  have x0 := (h.sl.bx 0 rfl 0 _ rfl).1
  have lB : B < w.heap.size := (h.sl.at 0 rfl).1
  have hB0 : w0.heap.size ≤ B := ((h.sl.is _ (List.mem_cons_self ..)).2.2.1)
  have HLE : Shut (∀ x, Later w.drew x → x.cell? ⟨B, 0, none⟩ = some (.slice va n vc)) := ⟨fun x hx => (((Below.drew (Below.refl _ _)).trans hx : Below w.heap.size w x).cell (p := ⟨B, 0, none⟩) lB).trans x0⟩
  clear h x0 lB
  go_enter Try.func94, Try.ntmps94
  go_upto_region 0 with fail
  refine wp_region_E Later later9 (fun j => decide (j = 0) || decide (7 ≤ j)) (by kernel_rfl) ?_
  refine wpE_pure later9 (i := 0) (v := ?v0) rfl (by kernel_rfl) (by kernel_rfl) (by kernel_rfl) (by kernel_rfl) (fun _ _ _ h => h) (by rfl) ?hy0 ?rest0
  case hy0 => (intro x; go_simp; try with_reducible rfl)
  try simp only [Act.put, List.setIfInBounds_toArray, List.set_cons_zero, List.set_cons_succ]
  refine wpE_val later9 (i := 1) (v := ?v1) rfl (by kernel_rfl) (by kernel_rfl) (by kernel_rfl) (by kernel_rfl) (fun _ _ _ h => h) (by rfl) ?hy1 ?rest1
  case hy1 => (intro x hx; have d0 := HLE.out x hx; go_simp; try with_reducible rfl)
  try simp only [Act.put, List.setIfInBounds_toArray, List.set_cons_zero, List.set_cons_succ]
  refine wpE_val later9 (i := 2) (v := ?v2) rfl (by kernel_rfl) (by kernel_rfl) (by kernel_rfl) (by kernel_rfl) (fun _ _ _ h => h) (by rfl) ?hy2 ?rest2
  case hy2 => (intro x hx; have d0 := HLE.out x hx; go_simp; try with_reducible rfl)
  try simp only [Act.put, List.setIfInBounds_toArray, List.set_cons_zero, List.set_cons_succ]
  refine wpE_val later9 (i := 3) (v := ?v3) rfl (by kernel_rfl) (by kernel_rfl) (by kernel_rfl) (by kernel_rfl) (fun _ _ _ h => h) (by rfl) ?hy3 ?rest3
  case hy3 => (intro x hx; have d0 := HLE.out x hx; go_simp; try with_reducible rfl)
  try simp only [Act.put, List.setIfInBounds_toArray, List.set_cons_zero, List.set_cons_succ]
  refine wpE_val later9 (i := 4) (v := ?v4) rfl (by kernel_rfl) (by kernel_rfl) (by kernel_rfl) (by kernel_rfl) (fun _ _ _ h => h) (by rfl) ?hy4 ?rest4
  case hy4 => (intro x hx; have d0 := HLE.out x hx; go_simp; try with_reducible rfl)
  try simp only [Act.put, List.setIfInBounds_toArray, List.set_cons_zero, List.set_cons_succ]
  refine wpE_val later9 (i := 5) (v := ?v5) rfl (by kernel_rfl) (by kernel_rfl) (by kernel_rfl) (by kernel_rfl) (fun _ _ _ h => h) (by rfl) ?hy5 ?rest5
  case hy5 => (intro x hx; have d0 := HLE.out x hx; go_simp; try with_reducible rfl)
  try simp only [Act.put, List.setIfInBounds_toArray, List.set_cons_zero, List.set_cons_succ]
  refine wpE_one (i := 6) (by kernel_rfl) rfl (by rfl) ?_
  intro y hy
  have HY := Shut.mk (H.out.below (Below.trans (Below.drew (Below.refl _ _)) hy))
  clear HLE hy
  refine ⟨.slice (some ⟨y.heap.size, 0, none⟩) 1 1, y.alloc (.cells #[.pointer (some ⟨b, off + t * 3, none⟩), .int .i64 (t : Nat)] 77), by go_simp, (Below.refl _ _).alloc (Nat.le_refl _) _, ?_⟩
  try simp only [Act.put, List.setIfInBounds_toArray, List.set_cons_zero, List.set_cons_succ]
  refine wpE_tail (by kernel_rfl) ?_
  intro x hx
  have HYA := Shut.mk ((HY.out.alloc (.cells #[.pointer (some ⟨b, off + t * 3, none⟩), .int .i64 (t : Nat)] 77)).below hx)
  have hcl : ∀ j u, (seC b off t)[j]? = some u → x.cell? ((⟨y.heap.size, 0, none⟩ : Addr).add j) = some u := fun j u hu => by
    have q := ((wcells_new y #[.pointer (some ⟨b, off + t * 3, none⟩), .int .i64 (t : Nat)] 77).grow hx).2 j u hu
    cases j with
    | zero => exact q.1
    | succ j => simpa [Addr.add] using q.1
  have hone : ∀ u ∈ seC b off t, u.oneCell' = true := fun u hu => by
    simp only [seC, List.mem_cons, List.not_mem_nil, or_false] at hu
    rcases hu with rfl | rfl <;> rfl
  obtain ⟨v', z, hrun, ho, hg, hiff, hat⟩ := run_append_own_at (P := Try.prog) x w0.heap.size 74 74 77 i0 _ 2 16 Try.underlying74 hin hz0 hz1 hz2 rfl (by decide) _ n _ HYA.out.own ⟨y.heap.size, 0, none⟩ 1 1 (seC b off t) rfl hcl hone (by unfold maxLen; omega) (by omega) (by have := HYA.out.sl.bel.size; omega)
  rw [seS_more] at ho
  have HM := Shut.mk (HY.out.more (((Below.refl _ _).alloc (Nat.le_refl _) _).trans (Below.mono hx (Nat.le_trans (Nat.le_succ _) (by simp)))) ho hg hat)
  obtain ⟨a9, c9, rfl⟩ := own_row_slice ho
  have HA9 : Shut (∃ g, a9 = some ⟨g, 0, none⟩) := ⟨by
    rcases ho.2 with ⟨e, e2⟩ | ⟨g, cap, cur, e, _⟩
    · omega
    · cases e; exact ⟨g, rfl⟩⟩
  clear ho hg hat hiff
  refine wpA_here (i := 7) (v := .slice a9 (n + 1) c9) (y := z) (by kernel_rfl) rfl (by rfl) (run_app rfl rfl rfl hrun) ?_
  try simp only [Act.put, List.setIfInBounds_toArray, List.set_cons_zero, List.set_cons_succ]
  refine wpA_val (i := 8) (v := .pointer (some ⟨B, 0, none⟩)) rfl (by kernel_rfl) (by kernel_rfl) (by kernel_rfl) (fun _ _ _ h => h) (by rfl) (fun x => by go_simp) ?_
  try simp only [Act.put, List.setIfInBounds_toArray, List.set_cons_zero, List.set_cons_succ]
  have x1 := HM.out.sl.bx 0 rfl 0 _ rfl
  obtain ⟨x2, x3⟩ := x1
  have HP := Shut.mk (HM.out.put 0 rfl 0 (.slice a9 (n + 1) c9) (by simp))
  refine wpA_store (i := 9) (y := z.setCell ⟨B, 0, none⟩ (.slice a9 (n + 1) c9)) (by kernel_rfl) rfl (by rfl) (by go_simp) (by kernel_rfl) ?_
  try simp only [Act.put]
  clear x2 x3 HM HY HYA hrun
  obtain ⟨g, rfl⟩ := HA9.out
  go_wp2_with fail
  go_end0
  exact ⟨rfl, g, c9, HP.out⟩
theorem seS_take (b off : Nat) (Q : List Nat) (n : Nat) (h : Q.length = n + 1) : seS b off Q = seS b off (Q.take n) ++ seC b off (Q.getD n 0) := by
  have e : Q = Q.take n ++ [Q.getD n 0] := by
    have e1 : Q[n]'(by omega) = Q.getD n 0 := by simp [List.getD, show n < Q.length by omega]
    conv => lhs; rw [← List.take_of_length_le (show Q.length ≤ n + 1 by omega)]
    rw [List.take_succ_eq_append_getElem (by omega), e1]
  conv => lhs; rw [e]
  exact (seS_more b off _ _).symm
/-- A row of one's own that is one shorter. -/
theorem OwS.pop {w0 W : World} {S : List Str} {g n c b off : Nat} {Q : List Nat} (h : OwS w0 W S 77 2 (.slice (some ⟨g, 0, none⟩) (n + 1) c) (n + 1) (seS b off Q)) (hn : Q.length = n + 1) : OwS w0 W S 77 2 (.slice (some ⟨g, 0, none⟩) n c) n (seS b off (Q.take n)) := by
  have q := h.own
  rw [seS_take b off Q n hn] at q
  exact ⟨h.sl, ownsRow_pop (by rw [seS_len, List.length_take]; omega) q, h.far⟩
set_option maxRecDepth 100000 in
set_option maxHeartbeats 2000000 in
theorem implQPop {w0 w : World} {S : List Str} {B g n c b off : Nat} {Q : List Nat} (h : OwS w0 w (bxS B [(.slice (some ⟨g, 0, none⟩) (n + 1) c)] :: S) 77 2 (.slice (some ⟨g, 0, none⟩) (n + 1) c) (n + 1) (seS b off Q)) (hn : Q.length = n + 1) (hnl : n ≤ 1048576) :
    Calls Try.prog 93 #[.pointer (some ⟨B, 0, none⟩)] w fun e w' => e = .returned (.iface 77 (sev b off (Q.getD n 0))) ∧ OwS w0 w' (bxS B [(.slice (some ⟨g, 0, none⟩) n c)] :: S) 77 2 (.slice (some ⟨g, 0, none⟩) n c) n (seS b off (Q.take n)) := by
  obtain ⟨x0, z0⟩ := h.sl.bx 0 rfl 0 _ rfl
  obtain ⟨a0, a1, lg⟩ := seS_at (FRw.of_own h.own).1.crow (show n < Q.length by omega)
  have lB : B < w.heap.size := (h.sl.at 0 rfl).1
  have hcn : n + 1 ≤ c := (FRw.of_own h.own).2
  have HK := Shut.mk (((h.put 0 rfl 0 (.slice (some ⟨g, 0, none⟩) n c) (by simp)).alloc (.cells #[.pointer (some ⟨b, off + Q.getD n 0 * 3, none⟩), .int .i64 (Q.getD n 0 : Nat)] 77)).pop hn)
  generalize Q.getD n 0 = s at *
  clear h hn
  have e1 : (n : Int) + 1 - 1 = (n : Int) := by omega
  have n0 : (0 : Int) ≤ (n : Int) := by omega
  have n1 : (n : Int) < (n : Int) + 1 := by omega
  have n2 : (n : Int) ≤ (c : Int) := by omega
  have hne : ¬ w.heap.size = B := by omega
  have hne2 : ¬ B = w.heap.size := by omega
  have hne3 : ¬ g = w.heap.size := by omega
  go_enter Try.func93, Try.ntmps93
  go_wp2_with fail
  go_ret
  exact ⟨rfl, HK.out⟩
set_option maxRecDepth 100000 in
set_option maxHeartbeats 2000000 in
theorem implPush {w0 w : World} {S : List Str} {B n b off : Nat} {v : Value} {Q : List Nat} {rs : List HoR} (h : OwS w0 w (bxS B [v] :: S) 77 2 v n (seS b off Q)) (hn : Q.length = n) (hnl : n < 1048576) (hr : HsRow w0 (some ⟨b, off, none⟩) rs) (hQ : ∀ x ∈ Q, x < rs.length) (t : Nat) (ht : t < rs.length) (hh : HpN (pk (hms rs)) Q n) :
    Calls Try.prog 40 #[qif B, .iface 77 (sev b off t)] w fun e w' => e = .returned (.tuple #[]) ∧ ∃ g c R, R.Perm (Q ++ [t]) ∧ HpN (pk (hms rs)) R (n + 1) ∧ OwS w0 w' (bxS B [(.slice (some ⟨g, 0, none⟩) (n + 1) c)] :: S) 77 2 (.slice (some ⟨g, 0, none⟩) (n + 1) c) (n + 1) (seS b off R) := by
  have HP := Shut.mk (implQPush h (by omega) t)
  have HU : Shut (∀ (W : World) (g c : Nat), OwS w0 W (bxS B [(.slice (some ⟨g, 0, none⟩) (n + 1) c)] :: S) 77 2 (.slice (some ⟨g, 0, none⟩) (n + 1) c) (n + 1) (seS b off (Q ++ [t])) → Calls Try.prog 48 #[qif B, .int .i64 (n : Nat)] W fun e w' => e = .returned (.tuple #[]) ∧ ∃ R, R.Perm (Q ++ [t]) ∧ HpN (pk (hms rs)) R (n + 1) ∧ OwS w0 w' (bxS B [(.slice (some ⟨g, 0, none⟩) (n + 1) c)] :: S) 77 2 (.slice (some ⟨g, 0, none⟩) (n + 1) c) (n + 1) (seS b off R)) := ⟨fun W g c h9 =>
    implUp h9 (by simp [hn]) (by omega) hr (fun x hx => by rcases List.mem_append.1 hx with q | q; exact hQ x q; rw [List.mem_singleton.1 q]; exact ht) n (by omega) (by
      have q := HpN.more (p := pk (hms rs)) (Q := Q) (by rw [hn]; exact hh) t
      rw [hn] at q
      exact q)⟩
  have e1 : (n : Int) + 1 - 1 = (n : Int) := by omega
  clear h hn hr hQ ht hh
  go_enter Try.func40, Try.ntmps40
  go_wp2_with (first
    | (go_at_call 94; refine HP.out.mono ?_; rintro e w1 ⟨rfl, g, c, h1⟩; have H1 := Shut.mk h1; clear h1; have x1 := (H1.out.sl.bx 0 rfl 0 _ rfl).1; have hm1 := len_meth B _ w1 x1)
    | (go_at_call 30; refine (implLen (some ⟨g, 0, none⟩) (n + 1) c w1).mono ?_; rintro e w2 ⟨rfl, hw2⟩; subst hw2)
    | (go_at_call 48; refine (HU.out _ g c H1.out).mono ?_; rintro e w3 ⟨rfl, R, hR, hH, h3⟩; have H3 := Shut.mk (And.intro hR (And.intro hH h3)); clear hR hH h3))
  go_end0
  exact ⟨rfl, g, c, R, H3.out.1, H3.out.2.1, H3.out.2.2⟩
set_option maxRecDepth 100000 in
set_option maxHeartbeats 2000000 in
theorem implPop {w0 w : World} {S : List Str} {B g n c b off : Nat} {Q : List Nat} {rs : List HoR} (h : OwS w0 w (bxS B [(.slice (some ⟨g, 0, none⟩) (n + 1) c)] :: S) 77 2 (.slice (some ⟨g, 0, none⟩) (n + 1) c) (n + 1) (seS b off Q)) (hn : Q.length = n + 1) (hnl : n < 1048576) (hr : HsRow w0 (some ⟨b, off, none⟩) rs) (hQ : ∀ x ∈ Q, x < rs.length) (hh : HpN (pk (hms rs)) Q (n + 1)) :
    Calls Try.prog 41 #[qif B] w fun e w' => e = .returned (.iface 77 (sev b off (Q.getD 0 0))) ∧ ∃ R, R.Perm Q ∧ R.getD n 0 = Q.getD 0 0 ∧ HpN (pk (hms rs)) R n ∧ OwS w0 w' (bxS B [(.slice (some ⟨g, 0, none⟩) n c)] :: S) 77 2 (.slice (some ⟨g, 0, none⟩) n c) n (seS b off (R.take n)) := by
  have x0 := (h.sl.bx 0 rfl 0 _ rfl).1
  have hm0 := len_meth B _ w x0
  have hm1 := swap_meth B _ w x0
  have HSW := Shut.mk (implSwap h hn 0 n (by omega) (by omega))
  have HDN : Shut (∀ W, OwS w0 W (bxS B [(.slice (some ⟨g, 0, none⟩) (n + 1) c)] :: S) 77 2 (.slice (some ⟨g, 0, none⟩) (n + 1) c) (n + 1) (seS b off (sw Q 0 n)) → Calls Try.prog 49 #[qif B, .int .i64 0, .int .i64 (n : Nat)] W fun e w' => SomeB e ∧ ∃ R, R.Perm (sw Q 0 n) ∧ HpN (pk (hms rs)) R n ∧ (∀ t, n ≤ t → R.getD t 0 = (sw Q 0 n).getD t 0) ∧ OwS w0 w' (bxS B [(.slice (some ⟨g, 0, none⟩) (n + 1) c)] :: S) 77 2 (.slice (some ⟨g, 0, none⟩) (n + 1) c) (n + 1) (seS b off R)) := ⟨fun W h9 =>
    implDown h9 (by rw [sw_len]; exact hn) (by omega) (by omega) hr (perm_lt (sw_perm Q 0 n (by omega) (by omega)) hQ) (hh.pop hn)⟩
  have HPP : Shut (∀ (W : World) (R : List Nat), R.Perm (sw Q 0 n) → (∀ t, n ≤ t → R.getD t 0 = (sw Q 0 n).getD t 0) → OwS w0 W (bxS B [(.slice (some ⟨g, 0, none⟩) (n + 1) c)] :: S) 77 2 (.slice (some ⟨g, 0, none⟩) (n + 1) c) (n + 1) (seS b off R) → R.Perm Q ∧ R.getD n 0 = Q.getD 0 0 ∧ Calls Try.prog 93 #[.pointer (some ⟨B, 0, none⟩)] W fun e w' => e = .returned (.iface 77 (sev b off (Q.getD 0 0))) ∧ OwS w0 w' (bxS B [(.slice (some ⟨g, 0, none⟩) n c)] :: S) 77 2 (.slice (some ⟨g, 0, none⟩) n c) n (seS b off (R.take n))) := ⟨fun W R hR ht h9 => by
    have e1 : R.getD n 0 = Q.getD 0 0 := by rw [ht n (Nat.le_refl _), sw_at Q 0 n (by omega) (by omega), if_pos rfl]
    have e2 := hR.trans (sw_perm Q 0 n (by omega) (by omega))
    refine ⟨e2, e1, ?_⟩
    rw [← e1]
    exact implQPop h9 (by rw [e2.length_eq]; exact hn) (by omega)⟩
  have e1 : (n : Int) + 1 - 1 = (n : Int) := by omega
  generalize sw Q 0 n = Q1 at *
  clear h hn hr hQ hh
  go_enter Try.func41, Try.ntmps41
  go_wp2_with (first
    | (go_at_call 30; refine (implLen (some ⟨g, 0, none⟩) (n + 1) c w).mono ?_; rintro e w2 ⟨rfl, hw2⟩; subst hw2; clear hm0)
    | (go_at_call 95; refine HSW.out.mono ?_; rintro e w3 ⟨rfl, h3⟩; have H3 := Shut.mk h3; clear h3 hm1 x0)
    | (go_at_call 49; refine (HDN.out _ H3.out).mono ?_; rintro e w4 ⟨⟨vb, rfl⟩, R, hR, hH, ht, h4⟩; have H4 := Shut.mk (And.intro hH (HPP.out w4 R hR ht h4)); clear hR hH ht h4)
    | (go_at_call 93; refine H4.out.2.2.2.mono ?_; rintro e w5 ⟨rfl, h5⟩; have H5 := Shut.mk h5; clear h5))
  go_ret
  exact ⟨rfl, R, H4.out.2.1, H4.out.2.2.1, H4.out.1, H5.out⟩
set_option maxRecDepth 100000 in
set_option maxHeartbeats 2000000 in
theorem implNext {w0 w : World} {S : List Str} {B g n c b off : Nat} {Q : List Nat} {rs : List HoR} (h : OwS w0 w (bxS B [(.slice (some ⟨g, 0, none⟩) (n + 1) c)] :: S) 77 2 (.slice (some ⟨g, 0, none⟩) (n + 1) c) (n + 1) (seS b off Q)) (hn : Q.length = n + 1) (hnl : n < 1048576) (hr : HsRow w0 (some ⟨b, off, none⟩) rs) (hQ : ∀ x ∈ Q, x < rs.length) (hh : HpN (pk (hms rs)) Q (n + 1)) :
    Calls Try.prog 31 #[.pointer (some ⟨B, 0, none⟩)] w fun e w' => e = .returned (.pointer (some ⟨b, off + Q.getD 0 0 * 3, none⟩)) ∧ ∃ R, R.Perm Q ∧ R.getD n 0 = Q.getD 0 0 ∧ HpN (pk (hms rs)) R n ∧ OwS w0 w' (bxS B [(.slice (some ⟨g, 0, none⟩) n c)] :: S) 77 2 (.slice (some ⟨g, 0, none⟩) n c) n (seS b off (R.take n)) := by
  have HP := Shut.mk (implPop h hn hnl hr hQ hh)
  clear h hn hr hQ hh
  generalize Q.getD 0 0 = s at *
  unfold sev at HP
  go_enter Try.func31, Try.ntmps31
  go_wp2_with (go_at_call 41; refine HP.out.mono ?_; rintro e w1 ⟨rfl, R, h1⟩; have H1 := Shut.mk h1; clear h1)
  go_ret
  exact ⟨rfl, R, H1.out⟩
end Go.Proofs.Ytoaifodmjkhiiaa
/- HeE: The program's own queueOf and PlaceGroup. -/
namespace Go.Proofs.Ytoaifodmjkhiiaa
set_option maxRecDepth 100000
open Go.RowKit BigFrame
attribute [local go_sem ↓] Go.wp_at_zero Go.wp_at_succ

theorem implAny (v : Value) (w : World) : Calls Try.prog 29 #[v] w fun e w' => e = .returned (.bool true) ∧ w' = w := by
  go_enter Try.func29, Try.ntmps29
  go_wp2_with fail
  go_ret
  exact ⟨rfl, rfl⟩
/-- The queue of the hosts that are up. -/
structure QOf (w W : World) (B b off : Nat) (v : Value) (hs : List HM) (k : Nat) (Q : List Nat) : Prop where
  own : OwS w W [bxS B [v]] 77 2 v Q.length (seS b off Q)
  all : Q.Perm (upTo hs k)
  heap : HpN (pk hs) Q Q.length
theorem perm_app {Q U : List Nat} (h : Q.Perm U) (R : List Nat) (t : Nat) (k : R.Perm (Q ++ [t])) : R.Perm (U ++ [t]) := k.trans (h.append_right _)
set_option maxRecDepth 100000 in
set_option maxHeartbeats 2000000 in
theorem implQueueOf (a : Option Addr) (rs : List HoR) (cap b off : Nat) (w : World) (hr : HsRow w a rs) (hl : rs.length ≤ 1048576) (ha : 0 < rs.length → a = some ⟨b, off, none⟩) :
    Calls Try.prog 28 #[.slice a rs.length cap, .func (.func 29) #[] #[]] w fun e w' => ∃ B v Q, e = .returned (.pointer (some ⟨B, 0, none⟩)) ∧ QOf w w' B b off v (hms rs) rs.length Q := by
  obtain ⟨n, hn⟩ : ∃ n, n = rs.length := ⟨_, rfl⟩
  have HN := Shut.mk hn
  have HR := Shut.mk (And.intro hr ha)
  rw [← hn] at hl ⊢
  clear hr ha hn
  have H0 : Shut (QOf w ((w.alloc (.cells #[] 77)).alloc (.cells #[.slice (some ⟨w.heap.size, 0, none⟩) 0 0] 74)) (w.heap.size + 1) b off (.slice (some ⟨w.heap.size, 0, none⟩) 0 0) (hms rs) 0 []) := ⟨by
    have q := (OwS.new (ty := 77) (sz := 2) (SL.start w)).box #[.slice (some ⟨w.heap.size, 0, none⟩) 0 0] 74
    simp only [World.size_alloc] at q
    exact ⟨q, by simp [upTo], fun k h0 h1 => by simp at h1⟩⟩
  go_enter Try.func28, Try.ntmps28
  go_wp2_with fail
  go_loopw [11] (fun i9 wr => ∃ (k : Nat), i9 = .int .i64 (k : Nat) ∧ k ≤ n ∧ Shut (∃ v Q, QOf w wr (w.heap.size + 1) b off v (hms rs) k Q)) (fun i9 _ => n - (intOf i9).toNat)
  case atStart => exact ⟨0, rfl, Nat.zero_le _, ⟨_, _, H0.out⟩⟩
  case round =>
    clear H0
    obtain ⟨k, rfl, hk, HW⟩ := hrel
    obtain ⟨v, Q, hq⟩ := HW.out
    have HQ := Shut.mk hq
    clear hq HW
    by_cases hlt : k < n
    · have hkr : k < rs.length := by rw [← HN.out]; exact hlt
      obtain ⟨b1, o1, r, e1, hre, lb, hc⟩ := hs_at HR.out.1 HQ.out.own.sl.bel hkr
      have e2 := HR.out.2 (by omega)
      rw [e1] at e2
      simp only [Option.some.injEq, Addr.mk.injEq, and_true] at e2
      obtain ⟨rfl, rfl⟩ := e2
      obtain ⟨d0, d1, d2, d3⟩ := hc wr (Below.refl _ _)
      have HUP : Shut (r.h.up = ((hms rs).getD k default).up) := ⟨by rw [hre]; simp [hms, List.getD, hkr]⟩
      have HUS := Shut.mk (upTo_step (hms rs) k)
      have k0 : (0 : Int) ≤ (k : Int) := by omega
      have k1 : (k : Int) < (n : Int) := by omega
      have hrow := HR.out.1
      have hQn : ∀ x ∈ Q, x < rs.length := fun x hx => by have q := upTo_lt (hms rs) k x (HQ.out.all.mem_iff.1 hx); omega
      have hQl : Q.length ≤ k := by rw [HQ.out.all.length_eq]; exact upTo_len _ _
      subst e1
      have HPU := Shut.mk (implPush HQ.out.own rfl (by omega) hrow hQn k hkr HQ.out.heap)
      clear hc hre hrow hQn d0 d2 d3
      cases hu : r.h.up with
      | true =>
        rw [hu] at d1 HUP
        go_wp2_with (first
          | (go_at_call 29; refine (implAny _ _).mono ?_; rintro e w2 ⟨rfl, hw2⟩; subst hw2)
          | (go_at_call 40; refine HPU.out.mono ?_; rintro e w3 ⟨rfl, g, c, R, hR, hH, h3⟩; have H3 := Shut.mk (And.intro hR (And.intro hH h3)); clear hR hH h3))
        go_roundw
        case rel =>
          have hRl : R.length = Q.length + 1 := by rw [H3.out.1.length_eq]; simp
          refine ⟨k + 1, by go_num, by omega, ⟨.slice (some ⟨g, 0, none⟩) (Q.length + 1) c, R, ⟨?_, ?_, ?_⟩⟩⟩
          · rw [hRl]; exact H3.out.2.2
          · rw [HUS.out, ← HUP.out, if_pos rfl]; exact perm_app HQ.out.all R k H3.out.1
          · rw [hRl]; exact H3.out.2.1
        case measure => simp [intOf]; omega
      | false =>
        rw [hu] at d1 HUP
        have HNX : Shut (upTo (hms rs) (k + 1) = upTo (hms rs) k) := ⟨by rw [HUS.out, ← HUP.out]; simp⟩
        go_wp2_with fail
        go_roundw
        case rel => exact ⟨k + 1, by go_num, by omega, ⟨v, Q, HQ.out.own, by rw [HNX.out]; exact HQ.out.all, HQ.out.heap⟩⟩
        case measure => simp [intOf]; omega
    · obtain rfl : n = k := by omega
      go_wp2_with fail
      go_ret
      exact ⟨_, v, Q, rfl, HQ.out⟩
/-- A row of one's own as a stretch. -/
abbrev owS (ty sz : Nat) (v : Value) (n : Nat) (L : List Value) (lo hi : Nat) : Str := ⟨fun W => W.ownsRow lo ty sz v n L ∧ ∀ q, v.ownBlock = some q → q < hi, lo, hi⟩
theorem owS.loc (ty sz : Nat) (v : Value) (n : Nat) (L : List Value) (lo hi : Nat) : (owS ty sz v n L lo hi).Loc := fun W W' l h hp t hd => by
  refine ⟨?_, hp.2⟩
  rcases hp.1.2 with ⟨e, e0⟩ | ⟨g, cap, cur, e, hb, hg, r⟩
  · exact ⟨hp.1.1, .inl ⟨e, e0⟩⟩
  · have hgh : g < h ∨ h ≤ g := Nat.lt_or_ge _ _
    have hq := hp.2 g (by rw [e]; rfl)
    have hgs : g < W.heap.size := (hp.1.lt g (by rw [e]; rfl)).2
    refine ⟨hp.1.1, .inr ⟨g, cap, cur, e, hb, ?_, r⟩⟩
    rw [← hg]
    exact t.block g hgs (by dsimp only [owS] at hd; omega)
/-- Two rows of one's own: one behind the other. -/
theorem OwS.beside {w0 W : World} {ty sz n B w1 ty' sz' k : Nat} {v u : Value} {L M : List Value} (h : OwS w0 W [bxS B [v]] ty sz v n L) (hB : B < w1) (hv : ∀ q, v.ownBlock = some q → q < w1) (h0 : w0.heap.size ≤ w1) (hu : W.ownsRow w1 ty' sz' u k M) :
    OwS w0 W [bxS B [v], owS ty' sz' u k M w1 W.heap.size] ty sz v n L := by
  refine ⟨⟨h.sl.bel, fun s hs => ?_, ?_⟩, h.own, fun q e s hs => ?_⟩
  · simp only [List.mem_cons, List.not_mem_nil, or_false] at hs
    rcases hs with rfl | rfl
    · exact h.sl.is _ (List.mem_cons_self ..)
    · exact ⟨⟨hu, fun q e => (hu.lt q e).2⟩, owS.loc _ _ _ _ _ _ _, h0, Nat.le_refl _⟩
  · refine List.pairwise_cons.2 ⟨fun s hs => ?_, List.pairwise_singleton _ _⟩
    rw [List.mem_singleton] at hs
    subst hs
    exact .inl hB
  · simp only [List.mem_cons, List.not_mem_nil, or_false] at hs
    rcases hs with rfl | rfl
    · exact h.far q e _ (List.mem_cons_self ..)
    · exact .inr (hv q e)
/-- Another row of one's own is made longer. -/
theorem OwS.other {w0 W Wa W' : World} {ty sz n B : Nat} {v : Value} {L : List Value} {row : Option Nat} {S : List Str} (h : OwS w0 W (bxS B [v] :: S) ty sz v n L) (hb : Below W.heap.size W Wa) (hg : Wa.grownBy W' row) (hr : ∀ q, row = some q → w0.heap.size ≤ q ∧ q ≠ B ∧ v.ownBlock ≠ some q) : OwS w0 W' [bxS B [v]] ty sz v n L := by
  have k : OwS w0 Wa [bxS B [v]] ty sz v n L := by
    have q := h.below hb
    refine ⟨⟨q.sl.bel, fun s hs => ?_, List.pairwise_singleton _ _⟩, q.own, fun g e s hs => ?_⟩
    · rw [List.mem_singleton] at hs
      subst hs
      exact q.sl.is _ (List.mem_cons_self ..)
    · rw [List.mem_singleton] at hs
      subst hs
      exact q.far g e _ (List.mem_cons_self ..)
  refine ⟨k.sl.grown hg fun q e => ⟨(hr q e).1, fun s hs => ?_⟩, k.own.kept hg ?_, k.far⟩
  · rw [List.mem_singleton] at hs
    subst hs
    have := (hr q e).2.1
    dsimp only [bxS]
    omega
  · cases e : v.ownBlock with
    | none => exact .inl rfl
    | some q => exact .inr fun e2 => (hr q e2.symm).2.2 e
theorem own_any {W : World} {B ty sz n : Nat} {v : Value} {L : List Value} (h : W.ownsRow B ty sz v n L) : ∃ a c, v = .slice a n c := by
  rcases h.2 with ⟨rfl, h0⟩ | ⟨g, cap, cur, e, _⟩
  · exact ⟨none, 0, by rw [h0]⟩
  · exact ⟨_, _, e⟩
/-- What is known while hosts are taken. -/
structure PQ (w W : World) (W1 B b off d : Nat) (va : Option Addr) (vc : Nat) (hs : List HM) (P Q : List Nat) (v : Value) : Prop where
  len : Q.length = d
  out : Out (pk hs) (upTo hs hs.length) P Q
  heap : HpN (pk hs) Q d
  own : OwS w W [bxS B [.slice va d vc]] 77 2 (.slice va d vc) d (seS b off Q)
  ids : W.ownsRow W1 3 1 v P.length (iv (P.map fun t => (pk hs t).2))
  big : W1 ≤ W.heap.size
set_option maxRecDepth 100000 in
set_option maxHeartbeats 4000000 in
theorem implPlaceGroup (a : Option Addr) (rs : List HoR) (cap : Nat) (x : Int) (w : World) (hr : HsRow w a rs) (hl : rs.length ≤ 1048576) (_ : hsSum (hms rs) ≤ 1048576) (hx : -9223372036854775808 ≤ x ∧ x ≤ 9223372036854775807) :
    Calls Try.prog 14 #[.slice a rs.length cap, .int .i64 x] w fun e w' => PlcPost (plcX (hms rs) x) w e w' := by
  obtain ⟨i0, hin, hz0, hz1, hz2⟩ := info_parts infoInt
  obtain ⟨b, off, hab⟩ : ∃ b off, 0 < rs.length → a = some ⟨b, off, none⟩ := by
    by_cases h : 0 < rs.length
    · obtain ⟨b, off, e, _⟩ := hr.at h
      exact ⟨b, off, fun _ => e⟩
    · exact ⟨0, 0, fun q => absurd q h⟩
  have HQO := Shut.mk (implQueueOf a rs cap b off w hr hl hab)
  obtain ⟨n, hn⟩ : ∃ n, n = rs.length := ⟨_, rfl⟩
  have HN := Shut.mk hn
  have HR := Shut.mk (And.intro hr hab)
  obtain ⟨RR, hRR⟩ : ∃ q, q = plcX (hms rs) x := ⟨_, rfl⟩
  rw [← hRR]
  have HQ := Shut.mk hRR
  rw [← hn] at hl HQO ⊢
  clear hr hab hn hRR
  go_enter Try.func14, Try.ntmps14
  go_upto_region 2 with (go_at_call 28; refine HQO.out.mono ?_; rintro e w1 ⟨B, v, Q, rfl, hq⟩; have HQ1 := Shut.mk hq; clear hq)
  obtain ⟨va, vc, rfl⟩ := own_row_slice HQ1.out.own.own
  obtain ⟨m, hm⟩ : ∃ m, m = Q.length := ⟨_, rfl⟩
  have HM := Shut.mk hm
  have HPL : Shut ((ordP (hms rs)).length = m) := ⟨by rw [(ordP_perm (hms rs)).length_eq, ← upTo_pairs, List.length_map, hms_len, ← HN.out, ← HQ1.out.all.length_eq, hm]⟩
  have hmn : m ≤ n := by
    have q := HQ1.out.all.length_eq
    have q2 := upTo_len (hms rs) n
    omega
  have x0 := (HQ1.out.own.sl.bx 0 rfl 0 _ rfl).1
  rw [← hm] at x0
  have HB1 := Shut.mk HQ1.out.own.sl.bel
  clear hm
  by_cases hx0 : x < 0
  case pos =>
    have HE : Shut (RR = ([], false)) := ⟨by rw [HQ.out]; unfold plcX; rw [if_neg (by omega)]⟩
    go_wp2_with fail
    go_ret2
    exact ⟨_, by rw [HE.out]; rfl, by rw [HE.out]; exact World.ownsRow_nil _ _ _ _, HB1.out⟩
  by_cases hxm : (m : Int) < x
  case pos =>
    have HE : Shut (RR = ([], false)) := ⟨by rw [HQ.out]; unfold plcX; rw [HPL.out, if_neg (by omega)]⟩
    go_wp2_with (go_at_call 30; refine (implLen va m vc w1).mono ?_; rintro e w2 ⟨rfl, hw2⟩; subst hw2)
    go_ret2
    exact ⟨_, by rw [HE.out]; rfl, by rw [HE.out]; exact World.ownsRow_nil _ _ _ _, HB1.out⟩
  obtain ⟨y, rfl⟩ := Int.eq_ofNat_of_zero_le (show 0 ≤ x by omega)
  have hym : y ≤ m := by omega
  have hxm2 : ¬ (m : Int) < (y : Int) := by omega
  have HE : Shut (RR = (((ordP (hms rs)).take y).map Prod.snd, true)) := ⟨by rw [HQ.out]; unfold plcX; rw [HPL.out, if_pos ⟨by omega, by omega⟩, Int.toNat_natCast]⟩
  have lB : B < w1.heap.size := (HQ1.out.own.sl.at 0 rfl).1
  have lv : ∀ q, (Value.slice va Q.length vc).ownBlock = some q → q < w1.heap.size := fun q e => (HQ1.out.own.own.lt q e).2
  have hmy : decide (m < y) = false := by simp; omega
  clear hxm HQ
  go_upto_region 5 with (go_at_call 30; refine (implLen va m vc w1).mono ?_; rintro e w2 ⟨rfl, hw2⟩; subst hw2)
  obtain ⟨W1, hW1⟩ : ∃ q, q = w2.heap.size := ⟨_, rfl⟩
  have HST : Shut (PQ w w2 W1 B b off m va vc (hms rs) [] Q (.slice none 0 0)) := ⟨by
    have q := HQ1.out
    refine ⟨HM.out.symm, Out.start (by rw [hms_len, ← HN.out]; exact q.all), by rw [HM.out]; exact q.heap, ?_, World.ownsRow_nil _ _ _ _, Nat.le_of_eq hW1⟩
    have q2 := q.own
    rw [← HM.out] at q2
    exact q2⟩
  have HLT : Shut (B < W1 ∧ (∀ g, va = some ⟨g, 0, none⟩ → g < W1) ∧ w.heap.size ≤ W1) := ⟨by rw [hW1]; exact ⟨lB, fun g e => lv g (by rw [e]; rfl), HB1.out.size⟩⟩
  clear lB lv HQ1 HM HQO x0 HB1 hW1
  go_upto_region 6 with fail
  go_loopw [7, 21] (fun v i9 wr => ∃ (k : Nat), i9 = .int .i64 (k : Nat) ∧ k ≤ y ∧ Shut (∃ P Q', P.length = k ∧ PQ w wr W1 B b off (m - k) va vc (hms rs) P Q' v)) (fun _ i9 _ => y - (intOf i9).toNat)
  case atStart => exact ⟨0, rfl, Nat.zero_le _, ⟨[], Q, rfl, HST.out⟩⟩
  case round =>
    clear HST
    obtain ⟨k, rfl, hk, HW⟩ := hrel
    obtain ⟨P, Q', hP, hpq⟩ := HW.out
    have HP := Shut.mk (And.intro hP hpq)
    clear hP hpq HW
    have hids := HP.out.2.ids
    rw [HP.out.1] at hids
    obtain ⟨av, cv, rfl⟩ := own_any hids
    clear hids
    by_cases hlt : k < y
    · obtain ⟨d, hd⟩ : ∃ d, m - k = d + 1 := ⟨m - k - 1, by omega⟩
      rw [hd] at HP
      obtain ⟨g, rfl⟩ : ∃ g, va = some ⟨g, 0, none⟩ := by
        rcases HP.out.2.own.own.2 with ⟨e, h0⟩ | ⟨g, cap, cur, e, _⟩
        · omega
        · cases e; exact ⟨g, rfl⟩
      have hn1 : 0 < rs.length := by have := HN.out; omega
      have HAB := HR.out.2 hn1
      have hrow := HR.out.1
      rw [HAB] at hrow
      have HBS := HP.out.2.own.beside HLT.out.1 (fun q e => HLT.out.2.1 q (by cases e; rfl)) HLT.out.2.2 HP.out.2.ids
      have hQl := HP.out.2.len
      have hQn : ∀ t ∈ Q', t < rs.length := fun t ht => by
        have q := upTo_lt (hms rs) _ t (HP.out.2.out.all.mem_iff.1 (List.mem_append_right _ ht))
        rw [hms_len] at q
        exact q
      have HNX := Shut.mk (implNext HBS hQl (by omega) hrow hQn HP.out.2.heap)
      obtain ⟨t, ht⟩ : ∃ t, t = Q'.getD 0 0 := ⟨_, rfl⟩
      have htn : t < rs.length := by rw [ht]; exact hQn _ (by simp [List.getD, show 0 < Q'.length by omega])
      rw [← ht] at HNX
      have HT := Shut.mk ht
      have HC : Shut (∀ X, Below w.heap.size w X → X.cell? ⟨b, off + t * 3, none⟩ = some (.int .i64 (pk (hms rs) t).2)) := ⟨fun X hX => by
        obtain ⟨b1, o1, r, e1, hre, lb, hc⟩ := hs_at hrow (Below.refl _ _) htn
        cases e1
        have q := (hc X hX).1
        have e : (pk (hms rs) t).2 = r.h.id := by unfold pk keyP; simp [hms, List.getD, htn, hre]
        rw [e]
        exact q⟩
      obtain ⟨id, hid⟩ : ∃ q, q = (pk (hms rs) t).2 := ⟨_, rfl⟩
      rw [← hid] at HC
      have HID := Shut.mk hid
      have hPk := HP.out.1
      clear hrow HAB HBS hQl hQn htn ht hid
      go_wp2_with (first
        | (go_at_call 31; refine HNX.out.mono ?_; rintro e w3 ⟨rfl, R, hR, hRl, hH, h3⟩; have H3 := Shut.mk (And.intro hR (And.intro hRl (And.intro hH h3))); have c3 := HC.out w3 h3.sl.bel; have o3 := (show owS _ _ _ _ _ _ _ |>.p w3 from h3.sl.at 1 rfl).1; have b3 : W1 ≤ w3.heap.size := Nat.le_trans HP.out.2.big (h3.sl.is _ (List.mem_cons_of_mem _ (List.mem_singleton.2 rfl))).2.2.2; clear hR hRl hH h3)
        | (at_builtin; refine wpList_append_own_at _ rfl _ _ 35 rfl W1 3 i0 (.int .i64 0) 1 8 Try.underlying35 hin hz0 hz1 hz2 rfl (by decide) _ _ _ rfl (o3.alloc _) ⟨w3.heap.size, 0, none⟩ 1 1 [.int .i64 id] rfl rfl (cell_one_new _ _ _) ?c2 ?c3 ?c4 ?c5 ?_))
      case c2 => simp [Value.oneCell']
      case c3 => unfold maxLen; omega
      case c4 => omega
      case c5 => first | omega | (simp; omega)
      intro v9 w9 ho hg _ hat
      have hLT := HLT.out
      have HO9 := Shut.mk (H3.out.2.2.2.other ((Below.refl _ _).alloc (Nat.le_refl _) _) hg (fun q e => by
        have q1 := (o3.lt q e).1
        refine ⟨by omega, by omega, fun e2 => ?_⟩
        have e3 : g = q := by simpa [Value.ownBlock] using e2
        have := hLT.2.1 g rfl
        omega))
      have hgs := hg.size
      have HB9 : Shut (W1 ≤ w9.heap.size) := ⟨by simp only [World.size_alloc] at hgs; omega⟩
      have HD9 : Shut (w9.ownsRow W1 3 1 v9 (k + 1) (iv ((P ++ [t]).map fun t => (pk (hms rs) t).2))) := ⟨by
        rw [List.map_append]
        unfold iv
        rw [List.map_append]
        have e : ((List.map (fun t => (pk (hms rs) t).2) [t]).map (Value.int .i64)) = [.int .i64 id] := by simp [HID.out]
        rw [e]
        exact ho⟩
      have HNP : Shut (PQ w w9 W1 B b off (m - (k + 1)) (some ⟨g, 0, none⟩) vc (hms rs) (P ++ [t]) (R.take d) v9) := ⟨by
        have hRl : R.length = d + 1 := by rw [H3.out.1.length_eq]; exact HP.out.2.len
        have ed : m - (k + 1) = d := by omega
        rw [ed]
        refine ⟨by rw [List.length_take]; omega, ?_, H3.out.2.2.1.take, HO9.out, ?_, HB9.out⟩
        · have q := HP.out.2.out.next HP.out.2.heap HP.out.2.len H3.out.1 (by rw [H3.out.2.1, HT.out])
          rw [← HT.out] at q
          exact q
        · rw [List.length_append, HP.out.1]; exact HD9.out⟩
      have hPL : (P ++ [t]).length = k + 1 := by rw [List.length_append, hPk]; rfl
      have HPL9 := Shut.mk hPL
      obtain ⟨a9, c9, rfl⟩ := own_any HD9.out
      clear ho hg hat hLT hgs o3 b3 c3 hPL
      go_wp2_with fail
      go_roundw
      case rel => exact ⟨k + 1, by go_num, by omega, ⟨P ++ [t], R.take d, HPL9.out, HNP.out⟩⟩
      case measure => simp [intOf]; omega
    · obtain rfl : y = k := by omega
      have HFI : Shut (RR.1 = P.map fun t => (pk (hms rs) t).2) := ⟨by
        rw [HE.out]
        have q := HP.out.2.out.is
        rw [HP.out.1] at q
        dsimp only
        rw [← q, List.map_map]
        rfl⟩
      have HTR : Shut (RR.2 = true) := ⟨by rw [HE.out]⟩
      go_wp2_with fail
      go_ret2
      refine ⟨.slice av y cv, by rw [HTR.out]; rfl, ?_, HP.out.2.own.sl.bel⟩
      rw [HFI.out, List.length_map]
      exact own_base HP.out.2.ids HLT.out.2.2
end Go.Proofs.Ytoaifodmjkhiiaa
/- OpenM: Rows of numbers, of rows of numbers, and of texts, that came in. -/
namespace Go.Proofs.Ytoaifodmjkhiiaa
set_option maxRecDepth 100000
open Go.RowKit Go.Deep Go.ChangeShapes Go.WideShapes

theorem cells_int : Try.prog.cellsOf 3 = 1 := by kernel_rfl
theorem cells_ints : Try.prog.cellsOf 35 = 1 := by kernel_rfl
theorem cells_str : Try.prog.cellsOf 9 = 1 := by kernel_rfl
/-- A row out of its elements. -/
theorem rows_from {α : Type} [Inhabited α] {en : α → List Value} {sz : Nat} (hsz : ∀ x, (en x).length = sz) (hp0 : 0 < sz) {W : World} {ad : Addr} {len : Nat} {Pr : α → Prop}
    (each : ∀ i, i < len → ∃ f : α, (∀ r v, (en f)[r]? = some v → W.cell? (ad.add (i * sz + r)) = some v) ∧ Pr f) : ∃ xs : List α, xs.length = len ∧ CRow W (some ad) (xs.flatMap en) ∧ ∀ f ∈ xs, Pr f := by
  obtain ⟨F, hF⟩ := choose_lt each
  have hlen : ((List.range len).map F).length = len := by simp
  have hget : ∀ j (hj : j < ((List.range len).map F).length), ((List.range len).map F)[j] = F j := by intro j hj; simp
  refine ⟨(List.range len).map F, hlen, ?_, ?_⟩
  · intro hp
    rw [flat_len hsz, hlen] at hp
    have hl0 : 0 < len := Nat.pos_of_ne_zero fun e => by rw [e] at hp; simp at hp
    have h00 : ∃ v, (en (F 0))[0]? = some v := by
      have : 0 < (en (F 0)).length := by rw [hsz]; exact hp0
      exact ⟨_, List.getElem?_eq_getElem this⟩
    obtain ⟨v0, hv0⟩ := h00
    have c0 := (hF 0 hl0).1 0 v0 hv0
    have hs : ad.spot = none := by
      have := World.cell?_spot c0
      simpa [Addr.add] using this
    obtain ⟨b, off, spot⟩ := ad
    simp only at hs
    subst hs
    have hadd : ∀ i, (⟨b, off, none⟩ : Addr).add i = ⟨b, off + i, none⟩ := by intro i; cases i <;> simp [Addr.add]
    refine ⟨b, off, rfl, ?_, fun i v hv => ?_⟩
    · by_cases hb : b < W.heap.size
      · exact hb
      · unfold World.cell? at c0
        rw [hadd, Array.getElem?_eq_none (by simpa using hb)] at c0
        simp at c0
    · have hi : i < (((List.range len).map F).flatMap en).length := (List.getElem?_eq_some_iff.1 hv).1
      rw [flat_len hsz, hlen] at hi
      have hq : i / sz < len := Nat.div_lt_of_lt_mul (by rwa [Nat.mul_comm] at hi)
      have hr := Nat.mod_lt i hp0
      have ei : i = i / sz * sz + i % sz := by rw [Nat.mul_comm]; exact (Nat.div_add_mod i sz).symm
      have hj : i / sz < ((List.range len).map F).length := by rw [hlen]; exact hq
      have l1 := flat_get hsz ((List.range len).map F) (i / sz) hj (i % sz) hr
      rw [hget _ hj, ← ei] at l1
      have := (hF (i / sz) hq).1 (i % sz) v (by rw [← l1]; exact hv)
      rw [← ei, hadd] at this
      exact this
  · intro f hf
    obtain ⟨j, hj, rfl⟩ := List.mem_map.1 hf
    exact (hF j (by simpa using hj)).2
theorem ics_flats (xs : List Int) : ics xs = xs.flatMap fun x => [.int .i64 x] := by
  unfold ics
  induction xs with
  | nil => rfl
  | cons x xs ih => simp [ih]
set_option maxRecDepth 100000 in
theorem open_row {H : Type} {enc : TypeId × Value → H} {W : World} {base : Nat} {spare : Nat → Bool} {held : Bool} {fuel : Nat} {cs : List Value} {x : DataW H × List MemPlace}
    (h : DataW.trod enc Try.prog W base spare held fuel 35 cs = some x) : ∃ s : SR, cs = [srv s] ∧ CRow W s.loc (ics s.row) ∧ s.row.length ≤ 9223372036854775807 := by
  rcases open_slice Try.underlying35 h with ⟨rfl, _⟩ | ⟨ad, len, cap, m, n, D, Pl, rfl, hb, hl, hm, hmm, _, hx⟩
  · exact ⟨⟨none, [], 0⟩, rfl, fun h => by simp [ics] at h, by simp⟩
  · have hlm : len ≤ m := by rw [hmm]; split <;> omega
    have each : ∀ i, i < len → ∃ f : Int, (∀ r v, ([.int .i64 f] : List Value)[r]? = some v → W.cell? (ad.add (i * 1 + r)) = some v) ∧ True := by
      intro i hi
      obtain ⟨cs', h1, h2⟩ := hx i (by omega)
      rw [cells_int] at h1
      obtain ⟨_, hlen, hcell⟩ := World.cells?_some h1
      obtain ⟨q, e2, _, z2⟩ := DataW.trod_int Try.underlying3 h2
      have c0 := hcell 0 (by omega)
      rw [add_add] at c0
      subst e2
      refine ⟨q, fun r v hv => ?_, trivial⟩
      match r, hv with
      | 0, hv => simp at hv; subst hv; simpa using c0
    obtain ⟨xs, hxl, hrow, _⟩ := rows_from (en := fun x => [.int .i64 x]) (fun _ => rfl) (by decide) each
    rw [← ics_flats] at hrow
    exact ⟨⟨some ad, xs, cap⟩, by simp only [srv]; rw [hxl], hrow, by show xs.length ≤ _; rw [hxl]; unfold maxLen at hm; omega⟩
theorem svs_flat (ss : List SR) : svs ss = ss.flatMap fun s => [srv s] := by
  unfold svs
  induction ss with
  | nil => rfl
  | cons x xs ih => simp [ih]
set_option maxRecDepth 100000 in
theorem open_intSS {H : Type} {enc : TypeId × Value → H} {W : World} {r : Reach} {b0 base : Nat} {spare : Nat → Bool} {held : Bool} {v : Value} {d : DataW H} {p : List MemPlace}
    (hv : Value.okWide Try.prog W r b0 113 v) (h : DataW.Trod enc Try.prog W base spare held 113 v d p) : ∃ a ss cap, v = .slice a (List.length (α := SR) ss) cap ∧ MR W a ss 0 W.heap.size ∧ (ss.length ≤ 9223372036854775807 ∧ ∀ s ∈ ss, s.row.length ≤ 9223372036854775807) := by
  obtain ⟨va, vl, vc, rfl⟩ := okWide_slice Try.underlying113 hv
  obtain ⟨fuel, h⟩ := h
  rcases open_slice Try.underlying113 h with ⟨e, _⟩ | ⟨ad, len, cap, m, n, D, Pl, e, hb, hl, hm, hmm, _, hx⟩
  · simp only [Value.cells, List.cons.injEq, and_true, Value.slice.injEq] at e
    obtain ⟨rfl, rfl, rfl⟩ := e
    exact ⟨none, [], 0, rfl, MR.nil _ _ _ _, by simp, by simp⟩
  · have hlm : len ≤ m := by rw [hmm]; split <;> omega
    have each : ∀ i, i < len → ∃ s : SR, (∀ r v, ([srv s] : List Value)[r]? = some v → W.cell? (ad.add (i * 1 + r)) = some v) ∧ CRow W s.loc (ics s.row) ∧ s.row.length ≤ 9223372036854775807 := by
      intro i hi
      obtain ⟨cs', h1, h2⟩ := hx i (by omega)
      rw [cells_ints] at h1
      obtain ⟨_, hlen, hcell⟩ := World.cells?_some h1
      obtain ⟨s, e2, hc, hz⟩ := open_row h2
      have c0 := hcell 0 (by omega)
      rw [add_add] at c0
      subst e2
      refine ⟨s, fun r v hv => ?_, hc, hz⟩
      match r, hv with
      | 0, hv => simp at hv; subst hv; simpa using c0
    obtain ⟨ss, hxl, hrow, hall⟩ := rows_from (en := fun s => [srv s]) (fun _ => rfl) (by decide) each
    rw [← svs_flat] at hrow
    simp only [Value.cells, List.cons.injEq, and_true, Value.slice.injEq] at e
    obtain ⟨rfl, rfl, rfl⟩ := e
    exact ⟨some ad, ss, vc, by rw [hxl], ⟨RRow.of_crow hrow, fun s hs => RRow.of_crow (hall s hs).1⟩, by rw [hxl]; unfold maxLen at hm; omega, fun s hs => (hall s hs).2⟩
end Go.Proofs.Ytoaifodmjkhiiaa
/- UnRo: Units, and rows of them, that came in (written by gen/mkrow.py). -/
namespace Go.Proofs.Ytoaifodmjkhiiaa
set_option maxRecDepth 100000
open Go.RowKit Go.Deep Go.ChangeShapes Go.WideShapes
theorem cellsLUnit : Try.prog.cellsOf 69 = 4 := by kernel_rfl
theorem cellsTUnit : Try.prog.cellsOf 9 = 1 := by kernel_rfl
theorem cellsNUnit : Try.prog.cellsOf 3 = 1 := by kernel_rfl
set_option maxRecDepth 100000 in
theorem openUnit_cells {H : Type} {enc : TypeId × Value → H} {W : World} {base : Nat} {spare : Nat → Bool} {held : Bool} {n : Nat} {cs : List Value} {x : DataW H × List MemPlace} (h : DataW.trod enc Try.prog W base spare held n 69 cs = some x) :
    ∃ f : UnM, cs = unC f ∧ UnFit f := by
  obtain ⟨xs, k, _, rfl, hl, hlen, hf⟩ := DataW.trod_struct Try.underlying69 h
  rw [cellsLUnit] at hl
  match xs, hlen, cs, hl with
  | [y0, y1, y2, y3], _, [v0, v1, v2, v3], _ =>
    have g0 := hf 0 _ rfl
    have g1 := hf 1 _ rfl
    have g2 := hf 2 _ rfl
    have g3 := hf 3 _ rfl
    simp [cellsTUnit, cellsNUnit] at g0 g1 g2 g3
    obtain ⟨q0, e0, _, z0⟩ := DataW.trod_int Try.underlying3 g0
    obtain ⟨q1, e1, _, z1⟩ := DataW.trod_int Try.underlying3 g1
    obtain ⟨s2, e2, _, z2⟩ := DataW.trod_string Try.underlying9 g2
    obtain ⟨q3, e3, _, z3⟩ := DataW.trod_int Try.underlying3 g3
    simp only [List.cons.injEq, and_true] at e0 e1 e2 e3
    subst e0 e1 e2 e3
    unfold maxLen at z2
    exact ⟨⟨q0, q1, s2, q3⟩, rfl, by simpa using z2, bounds_i64 z0, bounds_i64 z1, bounds_i64 z3⟩
set_option maxRecDepth 100000 in
theorem openUnit {H : Type} {enc : TypeId × Value → H} {W : World} {r : Reach} {b0 base : Nat} {spare : Nat → Bool} {held : Bool} {v : Value} {d : DataW H} {p : List MemPlace}
    (hv : Value.okWide Try.prog W r b0 69 v) (h : DataW.Trod enc Try.prog W base spare held 69 v d p) : ∃ f : UnM, v = unv f ∧ UnFit f := by
  obtain ⟨cs, rfl, hsz⟩ := okWide_struct Try.underlying69 hv
  obtain ⟨fuel, h⟩ := h
  obtain ⟨f, e, hf⟩ := openUnit_cells h
  refine ⟨f, ?_, hf⟩
  have : cs.toList = unC f := by simpa [Value.cells] using e
  rw [show cs = (unC f).toArray by rw [← this]]
  rfl
/-- What a slice's cells hold. -/
theorem openUnitS_cells {H : Type} {enc : TypeId × Value → H} {W : World} {base : Nat} {spare : Nat → Bool} {held : Bool} {va : Option Addr} {vl vc fuel : Nat} {x : DataW H × List MemPlace}
    (h : DataW.trod enc Try.prog W base spare held fuel 22 [.slice va vl vc] = some x) : ∃ xs, vl = List.length (α := UnM) xs ∧ UnRow W va xs ∧ UnFits xs := by
  rcases open_slice Try.underlying22 h with ⟨e, _⟩ | ⟨ad, len, cap, m, n, D, Pl, e, hb, hl, hm, hmm, _, hx⟩
  · simp only [List.cons.injEq, and_true, Value.slice.injEq] at e
    obtain ⟨rfl, rfl, rfl⟩ := e
    exact ⟨[], rfl, fun h => by simp [unS] at h, by simp, by simp⟩
  · have hlm : len ≤ m := by rw [hmm]; split <;> omega
    have each : ∀ i, i < len → ∃ f : UnM, (∀ r v, (unC f)[r]? = some v → W.cell? (ad.add (i * 4 + r)) = some v) ∧ UnFit f := by
      intro i hi
      obtain ⟨cs', h1, h2⟩ := hx i (by omega)
      rw [cellsLUnit] at h1
      obtain ⟨_, hlen, hcell⟩ := World.cells?_some h1
      obtain ⟨f, rfl, hfit⟩ := openUnit_cells h2
      refine ⟨f, fun r v hv => ?_, hfit⟩
      have hr : r < (unC f).length := (List.getElem?_eq_some_iff.1 hv).1
      have c := hcell r (by rw [unC_len] at hr; omega)
      rw [add_add] at c
      rw [c]
      exact hv
    obtain ⟨xs, hxl, hrow, hall⟩ := rows_from (en := unC) unC_len (by decide) each
    simp only [List.cons.injEq, and_true, Value.slice.injEq] at e
    obtain ⟨rfl, rfl, rfl⟩ := e
    exact ⟨xs, by rw [hxl], hrow, by rw [hxl]; unfold maxLen at hm; omega, hall⟩
theorem openUnitS {H : Type} {enc : TypeId × Value → H} {W : World} {r : Reach} {b0 base : Nat} {spare : Nat → Bool} {held : Bool} {v : Value} {d : DataW H} {p : List MemPlace}
    (hv : Value.okWide Try.prog W r b0 22 v) (h : DataW.Trod enc Try.prog W base spare held 22 v d p) : ∃ a xs cap, v = .slice a (List.length (α := UnM) xs) cap ∧ UnRow W a xs ∧ UnFits xs := by
  obtain ⟨va, vl, vc, rfl⟩ := okWide_slice Try.underlying22 hv
  obtain ⟨fuel, h⟩ := h
  obtain ⟨xs, rfl, hr, hf⟩ := openUnitS_cells (by simpa only [Value.cells] using h)
  exact ⟨va, xs, vc, rfl, hr, hf⟩
end Go.Proofs.Ytoaifodmjkhiiaa
/- HoO: Hosts that came in. -/
namespace Go.Proofs.Ytoaifodmjkhiiaa
set_option maxRecDepth 100000
open Go.RowKit Go.Deep Go.ChangeShapes Go.WideShapes
theorem cellsLHost : Try.prog.cellsOf 24 = 3 := by kernel_rfl
theorem cellsBHost : Try.prog.cellsOf 4 = 1 := by kernel_rfl
theorem cellsSHost : Try.prog.cellsOf 22 = 1 := by kernel_rfl
/-- What a host's cells hold. -/
theorem openHost_cells {H : Type} {enc : TypeId × Value → H} {W : World} {base : Nat} {spare : Nat → Bool} {held : Bool} {n : Nat} {cs : List Value} {x : DataW H × List MemPlace} (h : DataW.trod enc Try.prog W base spare held n 24 cs = some x) :
    ∃ (f : HM) (a : Option Addr) (cap : Nat), cs = [.int .i64 f.id, .bool f.up, .slice a f.us.length cap] ∧ UnRow W a f.us ∧ UnFits f.us ∧ (-9223372036854775808 ≤ f.id ∧ f.id ≤ 9223372036854775807) := by
  obtain ⟨xs, k, _, rfl, hl, hlen, hf⟩ := DataW.trod_struct Try.underlying24 h
  rw [cellsLHost] at hl
  match xs, hlen, cs, hl with
  | [y0, y1, y2], _, [v0, v1, v2], _ =>
    have g0 := hf 0 _ rfl
    have g1 := hf 1 _ rfl
    have g2 := hf 2 _ rfl
    simp [cellsNUnit, cellsBHost, cellsSHost] at g0 g1 g2
    obtain ⟨q0, e0, _, z0⟩ := DataW.trod_int Try.underlying3 g0
    obtain ⟨q1, e1, _⟩ := DataW.trod_bool Try.underlying4 g1
    simp only [List.cons.injEq, and_true] at e0 e1
    subst e0 e1
    obtain ⟨va, vl, vc, rfl⟩ : ∃ va vl vc, v2 = .slice va vl vc := by
      rcases open_slice Try.underlying22 g2 with ⟨e, _⟩ | ⟨ad, len, cap, m, n, D, Pl, e, _⟩
      · simp only [List.cons.injEq, and_true] at e
        exact ⟨_, _, _, e⟩
      · simp only [List.cons.injEq, and_true] at e
        exact ⟨_, _, _, e⟩
    obtain ⟨us, rfl, hr, hu⟩ := openUnitS_cells g2
    exact ⟨⟨q0, q1, us⟩, va, vc, rfl, hr, hu, bounds_i64 z0⟩
theorem openHost {H : Type} {enc : TypeId × Value → H} {W : World} {r : Reach} {b0 base : Nat} {spare : Nat → Bool} {held : Bool} {v : Value} {d : DataW H} {p : List MemPlace}
    (hv : Value.okWide Try.prog W r b0 24 v) (h : DataW.Trod enc Try.prog W base spare held 24 v d p) : ∃ (f : HM) (a : Option Addr) (cap : Nat), v = hov f a cap ∧ UnRow W a f.us ∧ UnFits f.us ∧ (-9223372036854775808 ≤ f.id ∧ f.id ≤ 9223372036854775807) := by
  obtain ⟨cs, rfl, hsz⟩ := okWide_struct Try.underlying24 hv
  obtain ⟨fuel, h⟩ := h
  obtain ⟨f, a, cap, e, hr, hu, hi⟩ := openHost_cells h
  refine ⟨f, a, cap, ?_, hr, hu, hi⟩
  have : cs.toList = [.int .i64 f.id, .bool f.up, .slice a f.us.length cap] := by simpa [Value.cells] using e
  rw [show cs = #[.int .i64 f.id, .bool f.up, .slice a f.us.length cap] by rw [← this]]
end Go.Proofs.Ytoaifodmjkhiiaa
/- HsO: Rows of hosts that came in. -/
namespace Go.Proofs.Ytoaifodmjkhiiaa
set_option maxRecDepth 100000
open Go.RowKit Go.Deep Go.ChangeShapes Go.WideShapes
/-- What a slice's cells hold. -/
theorem openHostS_cells {H : Type} {enc : TypeId × Value → H} {W : World} {base : Nat} {spare : Nat → Bool} {held : Bool} {va : Option Addr} {vl vc fuel : Nat} {x : DataW H × List MemPlace}
    (h : DataW.trod enc Try.prog W base spare held fuel 33 [.slice va vl vc] = some x) : ∃ rs, vl = List.length (α := HoR) rs ∧ HsRow W va rs ∧ HsFits (hms rs) := by
  rcases open_slice Try.underlying33 h with ⟨e, _⟩ | ⟨ad, len, cap, m, n, D, Pl, e, hb, hl, hm, hmm, _, hx⟩
  · simp only [List.cons.injEq, and_true, Value.slice.injEq] at e
    obtain ⟨rfl, rfl, rfl⟩ := e
    exact ⟨[], rfl, ⟨fun h => by rw [hS_len] at h; simp at h, fun r hr => by cases hr⟩, by simp [hms], fun r hr => by cases hr⟩
  · have hlm : len ≤ m := by rw [hmm]; split <;> omega
    have each : ∀ i, i < len → ∃ f : HoR, (∀ r v, (hC f)[r]? = some v → W.cell? (ad.add (i * 3 + r)) = some v) ∧ (UnRow W f.loc f.h.us ∧ UnFits f.h.us ∧ -9223372036854775808 ≤ f.h.id ∧ f.h.id ≤ 9223372036854775807) := by
      intro i hi
      obtain ⟨cs', h1, h2⟩ := hx i (by omega)
      rw [cellsLHost] at h1
      obtain ⟨_, hlen, hcell⟩ := World.cells?_some h1
      obtain ⟨f, a, c, rfl, hr, hu, hi2⟩ := openHost_cells h2
      refine ⟨⟨f, a, c⟩, fun r v hv => ?_, hr, hu, hi2⟩
      have hr : r < 3 := (List.getElem?_eq_some_iff.1 hv).1
      have c := hcell r hr
      rw [add_add] at c
      rw [c]
      exact hv
    obtain ⟨xs, hxl, hrow, hall⟩ := rows_from (en := hC) hC_len (by decide) each
    simp only [List.cons.injEq, and_true, Value.slice.injEq] at e
    obtain ⟨rfl, rfl, rfl⟩ := e
    refine ⟨xs, by rw [hxl], ⟨hrow, fun r hr => (hall r hr).1⟩, by rw [hms_len, hxl]; unfold maxLen at hm; omega, fun h hh => ?_⟩
    obtain ⟨r, hr, rfl⟩ := List.mem_map.1 hh
    exact (hall r hr).2
theorem openHostS {H : Type} {enc : TypeId × Value → H} {W : World} {r : Reach} {b0 base : Nat} {spare : Nat → Bool} {held : Bool} {v : Value} {d : DataW H} {p : List MemPlace}
    (hv : Value.okWide Try.prog W r b0 33 v) (h : DataW.Trod enc Try.prog W base spare held 33 v d p) : ∃ a rs cap, v = .slice a (List.length (α := HoR) rs) cap ∧ HsRow W a rs ∧ HsFits (hms rs) := by
  obtain ⟨va, vl, vc, rfl⟩ := okWide_slice Try.underlying33 hv
  obtain ⟨fuel, h⟩ := h
  obtain ⟨xs, rfl, hr, hf⟩ := openHostS_cells (by simpa only [Value.cells] using h)
  exact ⟨va, xs, vc, rfl, hr, hf⟩
end Go.Proofs.Ytoaifodmjkhiiaa
