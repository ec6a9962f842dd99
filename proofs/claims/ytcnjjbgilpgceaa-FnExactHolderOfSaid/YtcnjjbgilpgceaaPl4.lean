/- Texts of ours, laid one behind the other: LawLs, SpP, NestB, StrW, LawLx, LtM, PaI, PaJ. -/
import Derived.Test.YtcnjjbgilpgceaaPl3
import Derived.Deep.AppendLies
import Derived.Sort.Walk0
import Derived.WalkSmall
import Derived.Laws.RangeAny
/- LawLs: The exact laws of LeasesOk, TakeLease, RenewLeases, DropLease (written by gen/mklawls.py). -/
namespace Go.Proofs.Ytcnjjbgilpgceaa
set_option maxRecDepth 100000
open Go.RowKit BigFrame
attribute [local go_sem ↓] Go.wp_at_zero Go.wp_at_succ
/-- The ends of a new stretch are named. -/
theorem hide_rw {w W : World} {S : List Str} {a : Option Addr} {X : List Value} {lo hi : Nat} (h : Shut (SL w W (rwS a X lo hi :: S))) : ∃ l h, Shut (SL w W (rwS a X l h :: S)) := ⟨lo, hi, h⟩
theorem turned_rw8 {W W' : World} {lo hi : Nat} {row : Option Nat} (hg : W.grownBy W' row) (hr : ∀ g, row = some g → lo ≤ g ∧ g < hi) : Turned W W' lo hi := by
  cases row with
  | none => exact Turned.of_below ⟨hg.os, hg.tape, hg.output, hg.size, fun k hk => hg.block k hk (by simp)⟩ _ _
  | some g => exact Turned.of_grown hg (hr g rfl).1 (hr g rfl).2
set_option maxRecDepth 100000 in
set_option maxHeartbeats 8000000 in
theorem lawLeasesOk (us : List LsM) (a : Option Addr) (cap : Nat) (ok : Bool) (w : World) (hr : LsRow w a us) (hf : LsFits us)
    (hsp : us.length ≤ 1048576 → lsSum us ≤ 1048576 → ∀ (W : World) (b : Option Addr) (c : Nat), LsRow W b us → Calls Try.prog 22 #[.slice b us.length c] W fun e w' => e = .returned (.bool ok) ∧ Below W.heap.size W w')
    (him : us.length ≤ 1048576 → lsSum us ≤ 1048576 → ∀ (W : World) (b : Option Addr) (c : Nat), LsRow W b us → Below w.heap.size w W → Calls Try.prog 18 #[.slice b us.length c] W fun e w' => e = .returned (.bool ok) ∧ Below W.heap.size W w') :
    Calls Try.prog 4 #[.slice a us.length cap] w fun e w' => e = .returned (.bool true) ∧ Below w.heap.size w w' := by
  have HSZ := Shut.mk (szLeaseS_any a us cap 1048576 w hr hf (by omega) (by omega))
  have HTO := Shut.mk (fun (hl : us.length ≤ 1048576) (W : World) (hb : Below w.heap.size w W) => toLeaseS_any a us cap W (hr.stays hb) hl)
  have HSP := Shut.mk hsp
  have HIM := Shut.mk him
  have HEQ := Shut.mk (fun (hl : us.length ≤ 1048576) (W : World) (b c : Option Addr) (cb cc : Nat) (h1 : LsRow W b us) (h2 : LsRow W c us) => eqLeaseS_same b c us cb cc W h1 h2 (by omega))
  have HMH := Shut.mk (fun (hl : us.length ≤ 1048576) (W : World) (g lo hi : Nat) (h : FRw W (some ⟨g, 0, none⟩) (lsS us) lo hi) => markLeaseS_row (some ⟨g, 0, none⟩) us 1 us.length lo hi W h (by omega) (by omega) (Nat.le_refl _))
  unfold ToPostLs at HTO
  obtain ⟨n, hn⟩ : ∃ n, n = us.length := ⟨_, rfl⟩
  rw [← hn] at HSZ HTO HSP HIM HEQ HMH ⊢
  clear hr hf hsp him hn
  have hdd : (ok != ok) = false := by simp
  go_enter Try.func4, Try.ntmps4
  go_wp2_with fail
  refine HSZ.out.mono ?_
  rintro e w1 ⟨r, rfl, r0, r1, hb⟩
  have H := Shut.mk ((SL.start w).below hb)
  clear hb
  by_cases hq : r < 0
  · clear r1
    go_wp2_with fail
    go_ret
    exact ⟨rfl, H.out.bel⟩
  have hr1 := r1 (by omega)
  have hnl : n ≤ 1048576 := by omega
  replace HTO := Shut.mk (HTO.out (by omega))
  replace HSP := Shut.mk (HSP.out (by omega) (by omega))
  replace HIM := Shut.mk (HIM.out (by omega) (by omega))
  replace HEQ := Shut.mk (HEQ.out (by omega))
  replace HMH := Shut.mk (HMH.out (by omega))
  clear r1 hr1 r0 HSZ
  go_wp2_with fail
  refine (HTO.out _ H.out.bel).mono ?_
  rintro e w2 ⟨gw2, rfl, hg, hw, hb⟩
  replace H := Shut.mk (H.out.below hb)
  have HW := Shut.mk hw.crow
  clear hb hw hg
  go_wp2_with fail
  refine (HSP.out _ _ _ HW.out).mono ?_
  rintro e w3 ⟨rfl, hb⟩
  replace H := Shut.mk (H.out.below hb)
  clear hb HW
  go_wp2_with fail
  refine (HTO.out _ H.out.bel).mono ?_
  rintro e w5 ⟨g5, rfl, hg, hw, hb⟩
  replace H := Shut.mk (H.out.add (s := rwS (some ⟨g5, 0, none⟩) (lsS us) _ w5.heap.size) hb (FRw.of_wcells hw hg hw.1) (rwS.loc _ _ _ _) (Nat.le_refl _) (Nat.le_refl _))
  obtain ⟨l5, h5, H⟩ := hide_rw H
  clear hb hw hg
  go_wp2_with fail
  refine (HIM.out _ _ _ (show FRw _ _ _ _ _ from H.out.at 0 rfl).crow H.out.bel).mono ?_
  rintro e w7 ⟨rfl, hb⟩
  replace H := Shut.mk (H.out.below hb)
  clear hb
  go_wp2_with fail
  refine (HTO.out _ H.out.bel).mono ?_
  rintro e w9 ⟨gw9, rfl, hg, hw, hb⟩
  replace H := Shut.mk (H.out.below hb)
  have HW := Shut.mk hw.crow
  clear hb hw hg
  go_wp2_with fail
  refine (HEQ.out _ _ _ _ _ (show FRw _ _ _ _ _ from H.out.at 0 rfl).crow HW.out).mono ?_
  rintro e w10 ⟨rfl, hb⟩
  replace H := Shut.mk (H.out.below hb)
  clear hb HW
  go_wp2_with fail
  go_ret
  exact ⟨rfl, H.out.bel⟩
set_option maxRecDepth 100000 in
set_option maxHeartbeats 8000000 in
theorem lawTakeLease (us : List LsM) (a : Option Addr) (cap : Nat) (p : ByteArray) (who : Int) (now : Int) (R : List LsM × Bool) (w : World) (hr : LsRow w a us) (hf : LsFits us) (hrl : R.1.length ≤ 3000000 ∨ 1048576 < us.length)
    (hsp : p.size ≤ 1048576 → us.length ≤ 1048576 → lsSum us ≤ 1048576 → ∀ (W : World) (b : Option Addr) (c : Nat), LsRow W b us → Calls Try.prog 25 #[.slice b us.length c, .string p, .int .i64 who, .int .i64 now] W fun e w' => LbPost R W e w')
    (him : p.size ≤ 1048576 → us.length ≤ 1048576 → lsSum us ≤ 1048576 → ∀ (W : World) (b : Option Addr) (c : Nat), LsRow W b us → Below w.heap.size w W → Calls Try.prog 13 #[.slice b us.length c, .string p, .int .i64 who, .int .i64 now] W fun e w' => LbPost R W e w') :
    Calls Try.prog 5 #[.slice a us.length cap, .string p, .int .i64 who, .int .i64 now] w fun e w' => e = .returned (.bool true) ∧ Below w.heap.size w w' := by
  by_cases hs : 1048576 < p.size
  · clear hr hf hsp him hrl
    go_enter Try.func5, Try.ntmps5
    go_wp2_with fail
    go_ret
    exact ⟨rfl, Below.refl _ _⟩
  replace hsp := hsp (by omega)
  replace him := him (by omega)
  have HSZ := Shut.mk (szLeaseS_any a us cap 1048576 w hr hf (by omega) (by omega))
  have HTO := Shut.mk (fun (hl : us.length ≤ 1048576) (W : World) (hb : Below w.heap.size w W) => toLeaseS_any a us cap W (hr.stays hb) hl)
  have HSP := Shut.mk hsp
  have HIM := Shut.mk him
  have HEQ := Shut.mk (fun (hl : us.length ≤ 1048576) (W : World) (b c : Option Addr) (cb cc : Nat) (h1 : LsRow W b us) (h2 : LsRow W c us) => eqLeaseS_same b c us cb cc W h1 h2 (by omega))
  have HMH := Shut.mk (fun (hl : us.length ≤ 1048576) (W : World) (g lo hi : Nat) (h : FRw W (some ⟨g, 0, none⟩) (lsS us) lo hi) => markLeaseS_row (some ⟨g, 0, none⟩) us 1 us.length lo hi W h (by omega) (by omega) (Nat.le_refl _))
  unfold ToPostLs at HTO
  have HER := Shut.mk (fun (hrl : R.1.length ≤ 3000000) (W : World) (b c : Option Addr) (cb cc : Nat) (h1 : LsRow W b R.1) (h2 : LsRow W c R.1) => eqLeaseS_same b c R.1 cb cc W h1 h2 (by omega))
  have HMR := Shut.mk (fun (hrl : R.1.length ≤ 3000000) (W : World) (b : Option Addr) (c lo hi : Nat) (h : FRw W b (lsS R.1) lo hi) (hc : R.1.length ≤ c) => markLeaseS_row b R.1 1 c lo hi W h (by omega) (by omega) hc)
  have HHR := Shut.mk (fun (hrl : R.1.length ≤ 3000000) (W : World) (b : Option Addr) (c : Nat) (h : LsRow W b (marksL 1 R.1.length)) => heldLeaseS_any b 1 R.1.length c W h (by omega) (by omega))
  unfold LbPost at HSP HIM
  obtain ⟨RL, ok⟩ := R
  dsimp only at *
  have hdd : (ok != ok) = false := by simp
  obtain ⟨n, hn⟩ : ∃ n, n = us.length := ⟨_, rfl⟩
  obtain ⟨m, hm⟩ : ∃ m, m = RL.length := ⟨_, rfl⟩
  rw [← hm] at HSP HIM HER HMR HHR hrl
  rw [← hn] at HSZ HTO HSP HIM HEQ HMH hrl ⊢
  clear hr hf hsp him hn hm
  go_enter Try.func5, Try.ntmps5
  go_wp2_with fail
  refine HSZ.out.mono ?_
  rintro e w1 ⟨r, rfl, r0, r1, hb⟩
  have H := Shut.mk ((SL.start w).below hb)
  clear hb
  by_cases hq : r < 0
  · clear r1
    go_wp2_with fail
    go_ret
    exact ⟨rfl, H.out.bel⟩
  have hr1 := r1 (by omega)
  have hnl : n ≤ 1048576 := by omega
  replace HTO := Shut.mk (HTO.out (by omega))
  replace HSP := Shut.mk (HSP.out (by omega) (by omega))
  replace HIM := Shut.mk (HIM.out (by omega) (by omega))
  replace HEQ := Shut.mk (HEQ.out (by omega))
  replace HMH := Shut.mk (HMH.out (by omega))
  have hml : m ≤ 3000000 := by omega
  replace HER := Shut.mk (HER.out (by omega))
  replace HMR := Shut.mk (HMR.out (by omega))
  replace HHR := Shut.mk (HHR.out (by omega))
  clear r1 hr1 r0 HSZ hrl
  go_wp2_with fail
  refine (HTO.out _ H.out.bel).mono ?_
  rintro e w2 ⟨gw2, rfl, hg, hw, hb⟩
  replace H := Shut.mk (H.out.below hb)
  have HW := Shut.mk hw.crow
  clear hb hw hg
  go_wp2_with fail
  refine (HSP.out _ _ _ HW.out).mono ?_
  rintro e w3 ⟨a3, c3, rfl, hF, hc3, hb⟩
  replace H := Shut.mk (H.out.add (s := rwS a3 (lsS RL) _ w3.heap.size) hb hF (rwS.loc _ _ _ _) (Nat.le_refl _) (Nat.le_refl _))
  obtain ⟨l3, h3, H⟩ := hide_rw H
  clear hF hb HW
  go_wp2_with fail
  refine (HTO.out _ H.out.bel).mono ?_
  rintro e w5 ⟨g5, rfl, hg, hw, hb⟩
  replace H := Shut.mk (H.out.add (s := rwS (some ⟨g5, 0, none⟩) (lsS us) _ w5.heap.size) hb (FRw.of_wcells hw hg hw.1) (rwS.loc _ _ _ _) (Nat.le_refl _) (Nat.le_refl _))
  obtain ⟨l5, h5, H⟩ := hide_rw H
  clear hb hw hg
  go_wp2_with fail
  refine (HIM.out _ _ _ (show FRw _ _ _ _ _ from H.out.at 0 rfl).crow H.out.bel).mono ?_
  rintro e w7 ⟨a7, c7, rfl, hF, hc7, hb⟩
  replace H := Shut.mk (H.out.add (s := rwS a7 (lsS RL) _ w7.heap.size) hb hF (rwS.loc _ _ _ _) (Nat.le_refl _) (Nat.le_refl _))
  obtain ⟨l7, h7, H⟩ := hide_rw H
  clear hF hb
  go_wp2_with fail
  refine (HER.out _ _ _ _ _ (show FRw _ _ _ _ _ from H.out.at 0 rfl).crow (show FRw _ _ _ _ _ from H.out.at 2 rfl).crow).mono ?_
  rintro e w8 ⟨rfl, hb⟩
  replace H := Shut.mk (H.out.below hb)
  clear hb
  go_wp2_with fail
  refine (HTO.out _ H.out.bel).mono ?_
  rintro e w9 ⟨gw9, rfl, hg, hw, hb⟩
  replace H := Shut.mk (H.out.below hb)
  have HW := Shut.mk hw.crow
  clear hb hw hg
  go_wp2_with fail
  refine (HEQ.out _ _ _ _ _ (show FRw _ _ _ _ _ from H.out.at 1 rfl).crow HW.out).mono ?_
  rintro e w10 ⟨rfl, hb⟩
  replace H := Shut.mk (H.out.below hb)
  clear hb HW
  go_wp2_with fail
  refine (HMH.out _ _ _ _ (H.out.at 1 rfl)).mono ?_
  rintro e w11 ⟨rfl, hF, row, hg8, hr8⟩
  replace H := Shut.mk (H.out.turn 1 rfl (turned_rw8 hg8 hr8) hF (rwS.loc _ _ _ _))
  clear hF hg8 hr8
  go_wp2_with fail
  refine (HER.out _ _ _ _ _ (show FRw _ _ _ _ _ from H.out.at 0 rfl).crow (show FRw _ _ _ _ _ from H.out.at 2 rfl).crow).mono ?_
  rintro e w12 ⟨rfl, hb⟩
  replace H := Shut.mk (H.out.below hb)
  clear hb
  go_wp2_with fail
  refine (HMR.out _ _ _ _ _ (H.out.at 0 rfl) hc7).mono ?_
  rintro e w13 ⟨rfl, hF, row, hg8, hr8⟩
  replace H := Shut.mk (H.out.turn 0 rfl (turned_rw8 hg8 hr8) hF (rwS.loc _ _ _ _))
  clear hF hg8 hr8
  go_wp2_with fail
  refine (HHR.out _ _ _ (show FRw _ _ _ _ _ from H.out.at 0 rfl).crow).mono ?_
  rintro e w14 ⟨rfl, hb⟩
  replace H := Shut.mk (H.out.below hb)
  clear hb
  go_wp2_with fail
  refine (HTO.out _ H.out.bel).mono ?_
  rintro e w15 ⟨gw15, rfl, hg, hw, hb⟩
  replace H := Shut.mk (H.out.below hb)
  have HW := Shut.mk hw.crow
  clear hb hw hg
  go_wp2_with fail
  refine (HIM.out _ _ _ HW.out H.out.bel).mono ?_
  rintro e w16 ⟨a16, c16, rfl, hF, hc16, hb⟩
  replace H := Shut.mk (H.out.add (s := rwS a16 (lsS RL) _ w16.heap.size) hb hF (rwS.loc _ _ _ _) (Nat.le_refl _) (Nat.le_refl _))
  obtain ⟨l16, h16, H⟩ := hide_rw H
  clear hF hb HW
  go_wp2_with fail
  refine (HER.out _ _ _ _ _ (show FRw _ _ _ _ _ from H.out.at 0 rfl).crow (show FRw _ _ _ _ _ from H.out.at 3 rfl).crow).mono ?_
  rintro e w17 ⟨rfl, hb⟩
  replace H := Shut.mk (H.out.below hb)
  clear hb
  go_wp2_with fail
  refine (HHR.out _ _ _ (show FRw _ _ _ _ _ from H.out.at 1 rfl).crow).mono ?_
  rintro e w18 ⟨rfl, hb⟩
  replace H := Shut.mk (H.out.below hb)
  clear hb
  go_wp2_with fail
  go_ret
  exact ⟨rfl, H.out.bel⟩
set_option maxRecDepth 100000 in
set_option maxHeartbeats 8000000 in
theorem lawRenewLeases (us : List LsM) (a : Option Addr) (cap : Nat) (who : Int) (now : Int) (RL : List LsM) (w : World) (hr : LsRow w a us) (hf : LsFits us) (hrl : RL.length ≤ 3000000 ∨ 1048576 < us.length)
    (hsp : us.length ≤ 1048576 → lsSum us ≤ 1048576 → ∀ (W : World) (b : Option Addr) (c : Nat), LsRow W b us → Calls Try.prog 28 #[.slice b us.length c, .int .i64 who, .int .i64 now] W fun e w' => LsPost RL W e w')
    (him : us.length ≤ 1048576 → lsSum us ≤ 1048576 → ∀ (W : World) (b : Option Addr) (c : Nat), LsRow W b us → Below w.heap.size w W → Calls Try.prog 14 #[.slice b us.length c, .int .i64 who, .int .i64 now] W fun e w' => LsPost RL W e w') :
    Calls Try.prog 6 #[.slice a us.length cap, .int .i64 who, .int .i64 now] w fun e w' => e = .returned (.bool true) ∧ Below w.heap.size w w' := by
  have HSZ := Shut.mk (szLeaseS_any a us cap 1048576 w hr hf (by omega) (by omega))
  have HTO := Shut.mk (fun (hl : us.length ≤ 1048576) (W : World) (hb : Below w.heap.size w W) => toLeaseS_any a us cap W (hr.stays hb) hl)
  have HSP := Shut.mk hsp
  have HIM := Shut.mk him
  have HEQ := Shut.mk (fun (hl : us.length ≤ 1048576) (W : World) (b c : Option Addr) (cb cc : Nat) (h1 : LsRow W b us) (h2 : LsRow W c us) => eqLeaseS_same b c us cb cc W h1 h2 (by omega))
  have HMH := Shut.mk (fun (hl : us.length ≤ 1048576) (W : World) (g lo hi : Nat) (h : FRw W (some ⟨g, 0, none⟩) (lsS us) lo hi) => markLeaseS_row (some ⟨g, 0, none⟩) us 1 us.length lo hi W h (by omega) (by omega) (Nat.le_refl _))
  unfold ToPostLs at HTO
  have HER := Shut.mk (fun (hrl : RL.length ≤ 3000000) (W : World) (b c : Option Addr) (cb cc : Nat) (h1 : LsRow W b RL) (h2 : LsRow W c RL) => eqLeaseS_same b c RL cb cc W h1 h2 (by omega))
  have HMR := Shut.mk (fun (hrl : RL.length ≤ 3000000) (W : World) (b : Option Addr) (c lo hi : Nat) (h : FRw W b (lsS RL) lo hi) (hc : RL.length ≤ c) => markLeaseS_row b RL 1 c lo hi W h (by omega) (by omega) hc)
  have HHR := Shut.mk (fun (hrl : RL.length ≤ 3000000) (W : World) (b : Option Addr) (c : Nat) (h : LsRow W b (marksL 1 RL.length)) => heldLeaseS_any b 1 RL.length c W h (by omega) (by omega))
  unfold LsPost at HSP HIM
  obtain ⟨n, hn⟩ : ∃ n, n = us.length := ⟨_, rfl⟩
  obtain ⟨m, hm⟩ : ∃ m, m = RL.length := ⟨_, rfl⟩
  rw [← hm] at HSP HIM HER HMR HHR hrl
  rw [← hn] at HSZ HTO HSP HIM HEQ HMH hrl ⊢
  clear hr hf hsp him hn hm
  go_enter Try.func6, Try.ntmps6
  go_wp2_with fail
  refine HSZ.out.mono ?_
  rintro e w1 ⟨r, rfl, r0, r1, hb⟩
  have H := Shut.mk ((SL.start w).below hb)
  clear hb
  by_cases hq : r < 0
  · clear r1
    go_wp2_with fail
    go_ret
    exact ⟨rfl, H.out.bel⟩
  have hr1 := r1 (by omega)
  have hnl : n ≤ 1048576 := by omega
  replace HTO := Shut.mk (HTO.out (by omega))
  replace HSP := Shut.mk (HSP.out (by omega) (by omega))
  replace HIM := Shut.mk (HIM.out (by omega) (by omega))
  replace HEQ := Shut.mk (HEQ.out (by omega))
  replace HMH := Shut.mk (HMH.out (by omega))
  have hml : m ≤ 3000000 := by omega
  replace HER := Shut.mk (HER.out (by omega))
  replace HMR := Shut.mk (HMR.out (by omega))
  replace HHR := Shut.mk (HHR.out (by omega))
  clear r1 hr1 r0 HSZ hrl
  go_wp2_with fail
  refine (HTO.out _ H.out.bel).mono ?_
  rintro e w2 ⟨gw2, rfl, hg, hw, hb⟩
  replace H := Shut.mk (H.out.below hb)
  have HW := Shut.mk hw.crow
  clear hb hw hg
  go_wp2_with fail
  refine (HSP.out _ _ _ HW.out).mono ?_
  rintro e w3 ⟨a3, c3, rfl, hF, hc3, hb⟩
  replace H := Shut.mk (H.out.add (s := rwS a3 (lsS RL) _ w3.heap.size) hb hF (rwS.loc _ _ _ _) (Nat.le_refl _) (Nat.le_refl _))
  obtain ⟨l3, h3, H⟩ := hide_rw H
  clear hF hb HW
  go_wp2_with fail
  refine (HTO.out _ H.out.bel).mono ?_
  rintro e w5 ⟨g5, rfl, hg, hw, hb⟩
  replace H := Shut.mk (H.out.add (s := rwS (some ⟨g5, 0, none⟩) (lsS us) _ w5.heap.size) hb (FRw.of_wcells hw hg hw.1) (rwS.loc _ _ _ _) (Nat.le_refl _) (Nat.le_refl _))
  obtain ⟨l5, h5, H⟩ := hide_rw H
  clear hb hw hg
  go_wp2_with fail
  refine (HIM.out _ _ _ (show FRw _ _ _ _ _ from H.out.at 0 rfl).crow H.out.bel).mono ?_
  rintro e w7 ⟨a7, c7, rfl, hF, hc7, hb⟩
  replace H := Shut.mk (H.out.add (s := rwS a7 (lsS RL) _ w7.heap.size) hb hF (rwS.loc _ _ _ _) (Nat.le_refl _) (Nat.le_refl _))
  obtain ⟨l7, h7, H⟩ := hide_rw H
  clear hF hb
  go_wp2_with fail
  refine (HER.out _ _ _ _ _ (show FRw _ _ _ _ _ from H.out.at 0 rfl).crow (show FRw _ _ _ _ _ from H.out.at 2 rfl).crow).mono ?_
  rintro e w8 ⟨rfl, hb⟩
  replace H := Shut.mk (H.out.below hb)
  clear hb
  go_wp2_with fail
  refine (HTO.out _ H.out.bel).mono ?_
  rintro e w9 ⟨gw9, rfl, hg, hw, hb⟩
  replace H := Shut.mk (H.out.below hb)
  have HW := Shut.mk hw.crow
  clear hb hw hg
  go_wp2_with fail
  refine (HEQ.out _ _ _ _ _ (show FRw _ _ _ _ _ from H.out.at 1 rfl).crow HW.out).mono ?_
  rintro e w10 ⟨rfl, hb⟩
  replace H := Shut.mk (H.out.below hb)
  clear hb HW
  go_wp2_with fail
  refine (HMH.out _ _ _ _ (H.out.at 1 rfl)).mono ?_
  rintro e w11 ⟨rfl, hF, row, hg8, hr8⟩
  replace H := Shut.mk (H.out.turn 1 rfl (turned_rw8 hg8 hr8) hF (rwS.loc _ _ _ _))
  clear hF hg8 hr8
  go_wp2_with fail
  refine (HER.out _ _ _ _ _ (show FRw _ _ _ _ _ from H.out.at 0 rfl).crow (show FRw _ _ _ _ _ from H.out.at 2 rfl).crow).mono ?_
  rintro e w12 ⟨rfl, hb⟩
  replace H := Shut.mk (H.out.below hb)
  clear hb
  go_wp2_with fail
  refine (HMR.out _ _ _ _ _ (H.out.at 0 rfl) hc7).mono ?_
  rintro e w13 ⟨rfl, hF, row, hg8, hr8⟩
  replace H := Shut.mk (H.out.turn 0 rfl (turned_rw8 hg8 hr8) hF (rwS.loc _ _ _ _))
  clear hF hg8 hr8
  go_wp2_with fail
  refine (HHR.out _ _ _ (show FRw _ _ _ _ _ from H.out.at 0 rfl).crow).mono ?_
  rintro e w14 ⟨rfl, hb⟩
  replace H := Shut.mk (H.out.below hb)
  clear hb
  go_wp2_with fail
  refine (HTO.out _ H.out.bel).mono ?_
  rintro e w15 ⟨gw15, rfl, hg, hw, hb⟩
  replace H := Shut.mk (H.out.below hb)
  have HW := Shut.mk hw.crow
  clear hb hw hg
  go_wp2_with fail
  refine (HIM.out _ _ _ HW.out H.out.bel).mono ?_
  rintro e w16 ⟨a16, c16, rfl, hF, hc16, hb⟩
  replace H := Shut.mk (H.out.add (s := rwS a16 (lsS RL) _ w16.heap.size) hb hF (rwS.loc _ _ _ _) (Nat.le_refl _) (Nat.le_refl _))
  obtain ⟨l16, h16, H⟩ := hide_rw H
  clear hF hb HW
  go_wp2_with fail
  refine (HER.out _ _ _ _ _ (show FRw _ _ _ _ _ from H.out.at 0 rfl).crow (show FRw _ _ _ _ _ from H.out.at 3 rfl).crow).mono ?_
  rintro e w17 ⟨rfl, hb⟩
  replace H := Shut.mk (H.out.below hb)
  clear hb
  go_wp2_with fail
  refine (HHR.out _ _ _ (show FRw _ _ _ _ _ from H.out.at 1 rfl).crow).mono ?_
  rintro e w18 ⟨rfl, hb⟩
  replace H := Shut.mk (H.out.below hb)
  clear hb
  go_wp2_with fail
  go_ret
  exact ⟨rfl, H.out.bel⟩
set_option maxRecDepth 100000 in
set_option maxHeartbeats 8000000 in
theorem lawDropLease (us : List LsM) (a : Option Addr) (cap : Nat) (p : ByteArray) (RL : List LsM) (w : World) (hr : LsRow w a us) (hf : LsFits us) (hrl : RL.length ≤ 3000000 ∨ 1048576 < us.length)
    (hsp : p.size ≤ 1048576 → us.length ≤ 1048576 → lsSum us ≤ 1048576 → ∀ (W : World) (b : Option Addr) (c : Nat), LsRow W b us → Calls Try.prog 29 #[.slice b us.length c, .string p] W fun e w' => LsPost RL W e w')
    (him : p.size ≤ 1048576 → us.length ≤ 1048576 → lsSum us ≤ 1048576 → ∀ (W : World) (b : Option Addr) (c : Nat), LsRow W b us → Below w.heap.size w W → Calls Try.prog 15 #[.slice b us.length c, .string p] W fun e w' => LsPost RL W e w') :
    Calls Try.prog 7 #[.slice a us.length cap, .string p] w fun e w' => e = .returned (.bool true) ∧ Below w.heap.size w w' := by
  by_cases hs : 1048576 < p.size
  · clear hr hf hsp him hrl
    go_enter Try.func7, Try.ntmps7
    go_wp2_with fail
    go_ret
    exact ⟨rfl, Below.refl _ _⟩
  replace hsp := hsp (by omega)
  replace him := him (by omega)
  have HSZ := Shut.mk (szLeaseS_any a us cap 1048576 w hr hf (by omega) (by omega))
  have HTO := Shut.mk (fun (hl : us.length ≤ 1048576) (W : World) (hb : Below w.heap.size w W) => toLeaseS_any a us cap W (hr.stays hb) hl)
  have HSP := Shut.mk hsp
  have HIM := Shut.mk him
  have HEQ := Shut.mk (fun (hl : us.length ≤ 1048576) (W : World) (b c : Option Addr) (cb cc : Nat) (h1 : LsRow W b us) (h2 : LsRow W c us) => eqLeaseS_same b c us cb cc W h1 h2 (by omega))
  have HMH := Shut.mk (fun (hl : us.length ≤ 1048576) (W : World) (g lo hi : Nat) (h : FRw W (some ⟨g, 0, none⟩) (lsS us) lo hi) => markLeaseS_row (some ⟨g, 0, none⟩) us 1 us.length lo hi W h (by omega) (by omega) (Nat.le_refl _))
  unfold ToPostLs at HTO
  have HER := Shut.mk (fun (hrl : RL.length ≤ 3000000) (W : World) (b c : Option Addr) (cb cc : Nat) (h1 : LsRow W b RL) (h2 : LsRow W c RL) => eqLeaseS_same b c RL cb cc W h1 h2 (by omega))
  have HMR := Shut.mk (fun (hrl : RL.length ≤ 3000000) (W : World) (b : Option Addr) (c lo hi : Nat) (h : FRw W b (lsS RL) lo hi) (hc : RL.length ≤ c) => markLeaseS_row b RL 1 c lo hi W h (by omega) (by omega) hc)
  have HHR := Shut.mk (fun (hrl : RL.length ≤ 3000000) (W : World) (b : Option Addr) (c : Nat) (h : LsRow W b (marksL 1 RL.length)) => heldLeaseS_any b 1 RL.length c W h (by omega) (by omega))
  unfold LsPost at HSP HIM
  obtain ⟨n, hn⟩ : ∃ n, n = us.length := ⟨_, rfl⟩
  obtain ⟨m, hm⟩ : ∃ m, m = RL.length := ⟨_, rfl⟩
  rw [← hm] at HSP HIM HER HMR HHR hrl
  rw [← hn] at HSZ HTO HSP HIM HEQ HMH hrl ⊢
  clear hr hf hsp him hn hm
  go_enter Try.func7, Try.ntmps7
  go_wp2_with fail
  refine HSZ.out.mono ?_
  rintro e w1 ⟨r, rfl, r0, r1, hb⟩
  have H := Shut.mk ((SL.start w).below hb)
  clear hb
  by_cases hq : r < 0
  · clear r1
    go_wp2_with fail
    go_ret
    exact ⟨rfl, H.out.bel⟩
  have hr1 := r1 (by omega)
  have hnl : n ≤ 1048576 := by omega
  replace HTO := Shut.mk (HTO.out (by omega))
  replace HSP := Shut.mk (HSP.out (by omega) (by omega))
  replace HIM := Shut.mk (HIM.out (by omega) (by omega))
  replace HEQ := Shut.mk (HEQ.out (by omega))
  replace HMH := Shut.mk (HMH.out (by omega))
  have hml : m ≤ 3000000 := by omega
  replace HER := Shut.mk (HER.out (by omega))
  replace HMR := Shut.mk (HMR.out (by omega))
  replace HHR := Shut.mk (HHR.out (by omega))
  clear r1 hr1 r0 HSZ hrl
  go_wp2_with fail
  refine (HTO.out _ H.out.bel).mono ?_
  rintro e w2 ⟨gw2, rfl, hg, hw, hb⟩
  replace H := Shut.mk (H.out.below hb)
  have HW := Shut.mk hw.crow
  clear hb hw hg
  go_wp2_with fail
  refine (HSP.out _ _ _ HW.out).mono ?_
  rintro e w3 ⟨a3, c3, rfl, hF, hc3, hb⟩
  replace H := Shut.mk (H.out.add (s := rwS a3 (lsS RL) _ w3.heap.size) hb hF (rwS.loc _ _ _ _) (Nat.le_refl _) (Nat.le_refl _))
  obtain ⟨l3, h3, H⟩ := hide_rw H
  clear hF hb HW
  go_wp2_with fail
  refine (HTO.out _ H.out.bel).mono ?_
  rintro e w5 ⟨g5, rfl, hg, hw, hb⟩
  replace H := Shut.mk (H.out.add (s := rwS (some ⟨g5, 0, none⟩) (lsS us) _ w5.heap.size) hb (FRw.of_wcells hw hg hw.1) (rwS.loc _ _ _ _) (Nat.le_refl _) (Nat.le_refl _))
  obtain ⟨l5, h5, H⟩ := hide_rw H
  clear hb hw hg
  go_wp2_with fail
  refine (HIM.out _ _ _ (show FRw _ _ _ _ _ from H.out.at 0 rfl).crow H.out.bel).mono ?_
  rintro e w7 ⟨a7, c7, rfl, hF, hc7, hb⟩
  replace H := Shut.mk (H.out.add (s := rwS a7 (lsS RL) _ w7.heap.size) hb hF (rwS.loc _ _ _ _) (Nat.le_refl _) (Nat.le_refl _))
  obtain ⟨l7, h7, H⟩ := hide_rw H
  clear hF hb
  go_wp2_with fail
  refine (HER.out _ _ _ _ _ (show FRw _ _ _ _ _ from H.out.at 0 rfl).crow (show FRw _ _ _ _ _ from H.out.at 2 rfl).crow).mono ?_
  rintro e w8 ⟨rfl, hb⟩
  replace H := Shut.mk (H.out.below hb)
  clear hb
  go_wp2_with fail
  refine (HTO.out _ H.out.bel).mono ?_
  rintro e w9 ⟨gw9, rfl, hg, hw, hb⟩
  replace H := Shut.mk (H.out.below hb)
  have HW := Shut.mk hw.crow
  clear hb hw hg
  go_wp2_with fail
  refine (HEQ.out _ _ _ _ _ (show FRw _ _ _ _ _ from H.out.at 1 rfl).crow HW.out).mono ?_
  rintro e w10 ⟨rfl, hb⟩
  replace H := Shut.mk (H.out.below hb)
  clear hb HW
  go_wp2_with fail
  refine (HMH.out _ _ _ _ (H.out.at 1 rfl)).mono ?_
  rintro e w11 ⟨rfl, hF, row, hg8, hr8⟩
  replace H := Shut.mk (H.out.turn 1 rfl (turned_rw8 hg8 hr8) hF (rwS.loc _ _ _ _))
  clear hF hg8 hr8
  go_wp2_with fail
  refine (HER.out _ _ _ _ _ (show FRw _ _ _ _ _ from H.out.at 0 rfl).crow (show FRw _ _ _ _ _ from H.out.at 2 rfl).crow).mono ?_
  rintro e w12 ⟨rfl, hb⟩
  replace H := Shut.mk (H.out.below hb)
  clear hb
  go_wp2_with fail
  refine (HMR.out _ _ _ _ _ (H.out.at 0 rfl) hc7).mono ?_
  rintro e w13 ⟨rfl, hF, row, hg8, hr8⟩
  replace H := Shut.mk (H.out.turn 0 rfl (turned_rw8 hg8 hr8) hF (rwS.loc _ _ _ _))
  clear hF hg8 hr8
  go_wp2_with fail
  refine (HHR.out _ _ _ (show FRw _ _ _ _ _ from H.out.at 0 rfl).crow).mono ?_
  rintro e w14 ⟨rfl, hb⟩
  replace H := Shut.mk (H.out.below hb)
  clear hb
  go_wp2_with fail
  refine (HTO.out _ H.out.bel).mono ?_
  rintro e w15 ⟨gw15, rfl, hg, hw, hb⟩
  replace H := Shut.mk (H.out.below hb)
  have HW := Shut.mk hw.crow
  clear hb hw hg
  go_wp2_with fail
  refine (HIM.out _ _ _ HW.out H.out.bel).mono ?_
  rintro e w16 ⟨a16, c16, rfl, hF, hc16, hb⟩
  replace H := Shut.mk (H.out.add (s := rwS a16 (lsS RL) _ w16.heap.size) hb hF (rwS.loc _ _ _ _) (Nat.le_refl _) (Nat.le_refl _))
  obtain ⟨l16, h16, H⟩ := hide_rw H
  clear hF hb HW
  go_wp2_with fail
  refine (HER.out _ _ _ _ _ (show FRw _ _ _ _ _ from H.out.at 0 rfl).crow (show FRw _ _ _ _ _ from H.out.at 3 rfl).crow).mono ?_
  rintro e w17 ⟨rfl, hb⟩
  replace H := Shut.mk (H.out.below hb)
  clear hb
  go_wp2_with fail
  refine (HHR.out _ _ _ (show FRw _ _ _ _ _ from H.out.at 1 rfl).crow).mono ?_
  rintro e w18 ⟨rfl, hb⟩
  replace H := Shut.mk (H.out.below hb)
  clear hb
  go_wp2_with fail
  go_ret
  exact ⟨rfl, H.out.bel⟩
end Go.Proofs.Ytcnjjbgilpgceaa
/- SpP: The models' DropLease, Expired (written by gen/mklease.py). -/
namespace Go.Proofs.Ytcnjjbgilpgceaa
set_option maxRecDepth 100000
open Go.RowKit BigFrame
attribute [local go_sem ↓] Go.wp_at_zero Go.wp_at_succ
set_option maxRecDepth 100000 in
set_option maxHeartbeats 4000000 in
theorem specDropLease (us : List LsM) (a : Option Addr) (cap : Nat) (p : ByteArray) (w : World) (hr : LsRow w a us) (hl : us.length ≤ 1048576) :
    Calls Try.prog 29 #[.slice a us.length cap, .string p] w fun e w' => LsPost (dropX9 us p) w e w' := by
  obtain ⟨i0, hin, hz0, hz1, hz2⟩ := info_parts infoLease
  have HR := Shut.mk hr
  have HO := Shut.mk (OwS.new (ty := 35) (sz := 3) (SL.start w))
  obtain ⟨n, hn⟩ : ∃ n, n = us.length := ⟨_, rfl⟩
  have HN := Shut.mk hn
  rw [← hn] at hl ⊢
  clear hr hn
  go_enter Try.func29, Try.ntmps29
  go_wp2_with fail
  go_loopw [5, 6] (fun v9 i9 wr => ∃ (k m : Nat) (L : List LsM), i9 = .int .i64 k ∧ k ≤ n ∧ m ≤ k ∧ Shut (L = (us.take k).filter (fun f => !(f.path.toList == p.toList)) ∧ m = L.length) ∧ Shut (OwS w wr [] 35 3 v9 m (lsS L))) (fun _ i9 _ => n - (intOf i9).toNat)
  case atStart => exact ⟨0, 0, [], rfl, Nat.zero_le _, Nat.le_refl _, ⟨by simp⟩, HO⟩
  case round =>
    clear HO
    obtain ⟨k, m, L, rfl, hk, hm, HL, HW⟩ := hrel
    obtain ⟨av, cv, rfl⟩ := own_row_slice HW.out.own
    by_cases hlt : k < n
    · have hku : k < us.length := by rw [← HN.out]; exact hlt
      obtain ⟨b, off, x, rfl, hx, lb, hc⟩ := ls_at HR.out HW.out.sl.bel hku
      obtain ⟨d0, d1, d2⟩ := hc wr (Below.refl _ _)
      have k0 : (0 : Int) ≤ (k : Int) := by omega
      have k1 : (k : Int) < (n : Int) := by omega
      have lbw : b < wr.heap.size := Nat.lt_of_lt_of_le lb HW.out.sl.bel.size
      have HNX : Shut ((us.take (k + 1)).filter (fun f => !(f.path.toList == p.toList)) = (us.take k).filter (fun f => !(f.path.toList == p.toList)) ++ if (!(x.path.toList == p.toList)) = true then [x] else []) := ⟨by rw [hx]; exact filter_take _ us k hku⟩
      clear hc hx
      cases hq : x.path.toList == p.toList with
      | true =>
        have hq' : (x.path.toList != p.toList) = false := by rw [bne, hq]; rfl
        rw [hq] at HNX
        go_wp2_with fail
        go_roundw
        case rel => exact ⟨k + 1, m, L, by go_num, by omega, by omega, ⟨by rw [HNX.out]; simpa using HL.out⟩, HW⟩
        case measure => simp [intOf]; omega
      | false =>
        have hq' : (x.path.toList != p.toList) = true := by rw [bne, hq]; rfl
        rw [hq] at HNX
        have hown := HW.out.own
        have hbs := HW.out.sl.bel.size
        go_wp2_with (at_builtin; refine wpList_append_own_at _ rfl _ _ 24 rfl w.heap.size 35 i0 _ 3 32 Try.underlying24 hin hz0 hz1 hz2 rfl (by decide) _ _ _ rfl (hown.alloc _) ⟨wr.heap.size, 0, none⟩ 1 1 [.string x.path, .int .i64 x.who, .int .i64 x.seen] rfl rfl (World.news_of_block (cs := #[.string x.path, .int .i64 x.who, .int .i64 x.seen]) (t := 35) (fr := (0, 0)) (heap_alloc_new wr _)) ?c25 ?c35 ?c45 ?c55 ?_)
        case c25 => simp [Value.oneCell']
        case c35 => unfold maxLen; omega
        case c45 => omega
        case c55 => first | omega | (simp; omega)
        intro v5 w5 ho hg _ hat
        have HL5 := Shut.mk (HW.out.more ((Below.refl _ _).alloc (Nat.le_refl _) _) ho hg (by simpa using hat))
        clear ho hg hat hown hbs
        go_wp2_with fail
        go_roundw
        case rel => exact ⟨k + 1, m + 1, L ++ [x], by go_num, by omega, by omega, ⟨⟨by rw [HNX.out]; simp only [Bool.not_false, if_true]; rw [← HL.out.1], by rw [List.length_append, ← HL.out.2]; rfl⟩⟩, ⟨by rw [lss_snoc]; exact HL5.out⟩⟩
        case measure => simp [intOf]; omega
    · obtain rfl : n = k := by omega
      have HE : Shut (dropX9 us p = L) := ⟨by rw [HL.out.1, List.take_of_length_le (by have := HN.out; omega)]; rfl⟩
      obtain ⟨a8, c8, e8, hf8, hc8⟩ := HW.out.frw
      obtain ⟨rfl, rfl⟩ : av = a8 ∧ cv = c8 := by simpa using e8
      have HF8 := Shut.mk hf8
      clear hf8 e8
      go_wp2_with fail
      go_ret
      rw [HE.out]
      exact ⟨av, cv, by rw [← HL.out.2]; rfl, HF8.out, by rw [← HL.out.2]; exact hc8, HW.out.sl.bel⟩
theorem infoStr16 : (Try.prog.info? 9).map (fun i => (i.zero, i.size, i.bytes)) = some (some (.string ⟨#[]⟩), 1, 16) := by kernel_rfl
/-- A row of texts that is answered. -/
def TxPost (L : List ByteArray) (w : World) (e : Ending) (w' : World) : Prop := ∃ a c, e = .returned (.slice a L.length c) ∧ FRw w' a (tv L) w.heap.size w'.heap.size ∧ L.length ≤ c ∧ Below w.heap.size w w'
set_option maxRecDepth 100000 in
set_option maxHeartbeats 4000000 in
theorem specExpired (us : List LsM) (a : Option Addr) (cap : Nat) (now : Int) (w : World) (hr : LsRow w a us) (hl : us.length ≤ 1048576) :
    Calls Try.prog 20 #[.slice a us.length cap, .int .i64 now] w fun e w' => TxPost (expiredX us now) w e w' := by
  obtain ⟨i0, hin, hz0, hz1, hz2⟩ := info_parts infoStr16
  have HR := Shut.mk hr
  have HO := Shut.mk (OwS.new (ty := 9) (sz := 1) (SL.start w))
  obtain ⟨n, hn⟩ : ∃ n, n = us.length := ⟨_, rfl⟩
  have HN := Shut.mk hn
  rw [← hn] at hl ⊢
  clear hr hn
  go_enter Try.func20, Try.ntmps20
  go_wp2_with fail
  go_loopw [5, 6] (fun v9 i9 wr => ∃ (k m : Nat) (L : List ByteArray), i9 = .int .i64 k ∧ k ≤ n ∧ m ≤ k ∧ Shut (L = ((us.take k).filter (fun f => isOld f now)).map (·.path) ∧ m = L.length) ∧ Shut (OwS w wr [] 9 1 v9 m (tv L))) (fun _ i9 _ => n - (intOf i9).toNat)
  case atStart => exact ⟨0, 0, [], rfl, Nat.zero_le _, Nat.le_refl _, ⟨by simp⟩, HO⟩
  case round =>
    clear HO
    obtain ⟨k, m, L, rfl, hk, hm, HL, HW⟩ := hrel
    obtain ⟨av, cv, rfl⟩ := own_row_slice HW.out.own
    by_cases hlt : k < n
    · have hku : k < us.length := by rw [← HN.out]; exact hlt
      obtain ⟨b, off, x, rfl, hx, lb, hc⟩ := ls_at HR.out HW.out.sl.bel hku
      obtain ⟨d0, d1, d2⟩ := hc wr (Below.refl _ _)
      have k0 : (0 : Int) ≤ (k : Int) := by omega
      have k1 : (k : Int) < (n : Int) := by omega
      have lbw : b < wr.heap.size := Nat.lt_of_lt_of_le lb HW.out.sl.bel.size
      have HNX : Shut (((us.take (k + 1)).filter (fun f => isOld f now)).map (·.path) = ((us.take k).filter (fun f => isOld f now)).map (·.path) ++ if isOld x now = true then [x.path] else []) := ⟨by rw [filter_take _ us k hku, ← hx, List.map_append]; congr 1; split <;> rfl⟩
      clear hc hx
      cases h1 : inI x.seen 0 1000000000 with
      | false =>
        rw [show isOld x now = false by unfold isOld; rw [h1]; rfl] at HNX
        have I1 := Shut.mk (fun W => isInI x.seen 0 1000000000 W false h1)
        go_wp2_with (go_at_call 47; refine (I1.out _).mono ?_; rintro e w1 ⟨rfl, rfl⟩)
        go_roundw
        case rel => exact ⟨k + 1, m, L, by go_num, by omega, by omega, ⟨by rw [HNX.out]; simpa using HL.out⟩, HW⟩
        case measure => simp [intOf]; omega
      | true =>
        have I1 := Shut.mk (fun W => isInI x.seen 0 1000000000 W true h1)
        have hx1 := inI_iff.1 h1
        cases h2 : inI now 0 1000000000 with
        | false =>
          rw [show isOld x now = false by unfold isOld; rw [h1, h2]; rfl] at HNX
          have I2 := Shut.mk (fun W => isInI now 0 1000000000 W false h2)
          clear hx1
          go_wp2_with (go_at_call 47; first | ((with_reducible refine (I1.out _).mono ?_); rintro e w1 ⟨rfl, rfl⟩) | ((with_reducible refine (I2.out _).mono ?_); rintro e w1 ⟨rfl, rfl⟩))
          go_roundw
          case rel => exact ⟨k + 1, m, L, by go_num, by omega, by omega, ⟨by rw [HNX.out]; simpa using HL.out⟩, HW⟩
          case measure => simp [intOf]; omega
        | true =>
          have I2 := Shut.mk (fun W => isInI now 0 1000000000 W true h2)
          have hx2 := inI_iff.1 h2
          obtain ⟨x1, x2⟩ := hx1
          obtain ⟨x3, x4⟩ := hx2
          by_cases h3 : 12 ≤ now - x.seen
          · have h3' : decide (12 ≤ now - x.seen) = true := by simpa using h3
            rw [show isOld x now = true by unfold isOld; rw [h1, h2, h3']; rfl] at HNX
            go_upto_region 6 with (go_at_call 47; first | ((with_reducible refine (I1.out _).mono ?_); rintro e w1 ⟨rfl, rfl⟩) | ((with_reducible refine (I2.out _).mono ?_); rintro e w1 ⟨rfl, rfl⟩))
            have hown := HW.out.own
            have hbs := HW.out.sl.bel.size
            go_wp2_with (at_builtin; refine wpList_append_own_at _ rfl _ _ 32 rfl w.heap.size 9 i0 _ 1 16 Try.underlying32 hin hz0 hz1 hz2 rfl (by decide) _ _ _ rfl (hown.alloc _) ⟨w1.heap.size, 0, none⟩ 1 1 [.string x.path] rfl rfl (World.news_of_block (cs := #[.string x.path]) (t := 9) (fr := (0, 0)) (heap_alloc_new w1 _)) ?c25 ?c35 ?c45 ?c55 ?_)
            case c25 => simp [Value.oneCell']
            case c35 => unfold maxLen; omega
            case c45 => omega
            case c55 => first | omega | (simp; omega)
            intro v5 w5 ho hg _ hat
            have HL5 := Shut.mk (HW.out.more ((Below.refl _ _).alloc (Nat.le_refl _) _) ho hg (by simpa using hat))
            clear ho hg hat hown hbs
            go_wp2_with fail
            go_roundw
            case rel => exact ⟨k + 1, m + 1, L ++ [x.path], by go_num, by omega, by omega, ⟨⟨by rw [HNX.out]; simp only [if_true]; rw [← HL.out.1], by rw [List.length_append, ← HL.out.2]; rfl⟩⟩, ⟨by rw [show tv (L ++ [x.path]) = tv L ++ [.string x.path] by simp [tv]]; exact HL5.out⟩⟩
            case measure => simp [intOf]; omega
          · have h3' : decide (12 ≤ now - x.seen) = false := by simpa using h3
            rw [show isOld x now = false by unfold isOld; rw [h1, h2, h3']; rfl] at HNX
            go_wp2_with (go_at_call 47; first | ((with_reducible refine (I1.out _).mono ?_); rintro e w1 ⟨rfl, rfl⟩) | ((with_reducible refine (I2.out _).mono ?_); rintro e w1 ⟨rfl, rfl⟩))
            go_roundw
            case rel => exact ⟨k + 1, m, L, by go_num, by omega, by omega, ⟨by rw [HNX.out]; simpa using HL.out⟩, HW⟩
            case measure => simp [intOf]; omega
    · obtain rfl : n = k := by omega
      have HE : Shut (expiredX us now = L) := ⟨by rw [HL.out.1, List.take_of_length_le (by have := HN.out; omega)]; rfl⟩
      obtain ⟨a8, c8, e8, hf8, hc8⟩ := HW.out.frw
      obtain ⟨rfl, rfl⟩ : av = a8 ∧ cv = c8 := by simpa using e8
      have HF8 := Shut.mk hf8
      clear hf8 e8
      go_wp2_with fail
      go_ret
      rw [HE.out]
      exact ⟨av, cv, by rw [← HL.out.2]; rfl, HF8.out, by rw [← HL.out.2]; exact hc8, HW.out.sl.bel⟩
end Go.Proofs.Ytcnjjbgilpgceaa
/- NestB: Rows of rows of numbers: the laws' own copies, sizes, comparisons and marks. -/
namespace Go.Proofs.Ytcnjjbgilpgceaa
set_option maxRecDepth 100000
open Go.RowKit
attribute [local go_sem ↓] Go.wp_at_zero Go.wp_at_succ

theorem infoRow : (Try.prog.info? 26).map (fun i => (i.zero, i.size, i.bytes)) = some (some (.slice none 0 0), 1, 24) := by kernel_rfl
/-- Where the copy of a row of rows stands. -/
structure TI (w wr : World) (ss : List SR) (ts : List SR) : Prop where
  rweq : rws ts = rws (ss.take ts.length)
  out : WCells wr w.heap.size (svs ts ++ List.replicate (ss.length - ts.length) (.slice none 0 0))
  rows : ∀ s ∈ ts, ∃ b, s.loc = some ⟨b, 0, none⟩ ∧ w.heap.size ≤ b ∧ b < wr.heap.size ∧ b ≠ w.heap.size ∧ WCells wr b (ics s.row) ∧ s.row.length ≤ s.cap
  apart : (ts.map SR.loc).Nodup
  bel : Below w.heap.size w wr
theorem set_mid (A B : List Value) (x y : Value) (k : Nat) (h : A.length = k) : (A ++ x :: B).set k y = A ++ y :: B := by
  subst h
  rw [List.set_append_right _ _ (Nat.le_refl _)]
  simp
theorem TI.next {w wr w1 : World} {ss ts : List SR} {g1 : Nat} {row : List Int} {n : Nat} (h : TI w wr ss ts) (hk : ts.length < ss.length) (hrow : (ss[ts.length]).row = row) (hn : n = row.length) (hw : w.heap.size < wr.heap.size)
    (hg1 : wr.heap.size ≤ g1) (hc : WCells w1 g1 (ics row)) (hb : Below wr.heap.size wr w1) : TI w (w1.setCell ⟨w.heap.size, ts.length, none⟩ (.slice (some ⟨g1, 0, none⟩) n n)) ss (ts ++ [SR.mk (some ⟨g1, 0, none⟩) row row.length]) := by
  subst hn
  have hne : g1 ≠ w.heap.size := by omega
  have hsz : (w1.setCell ⟨w.heap.size, ts.length, none⟩ (.slice (some ⟨g1, 0, none⟩) row.length row.length)).heap.size = w1.heap.size := by simp [World.setCell]
  have hgs : w1.grownBy (w1.setCell ⟨w.heap.size, ts.length, none⟩ (.slice (some ⟨g1, 0, none⟩) row.length row.length)) (some w.heap.size) := gb_set' _ _ _ _
  refine ⟨?_, ?_, ?_, ?_, ?_⟩
  · rw [rws_snoc, h.rweq, List.length_append, List.length_singleton, List.take_succ_eq_append_getElem hk, rws_snoc, hrow]
  · have o := (h.out.below hb h.out.1).set ts.length (.slice (some ⟨g1, 0, none⟩) row.length row.length) (by rw [List.length_append, svs_len, List.length_replicate]; omega)
    obtain ⟨m, hm⟩ : ∃ m, ss.length - ts.length = m + 1 := ⟨ss.length - ts.length - 1, by omega⟩
    rw [hm, List.replicate_succ, set_mid _ _ _ _ _ (svs_len ts)] at o
    have e : svs (ts ++ [SR.mk (some ⟨g1, 0, none⟩) row row.length]) ++ List.replicate (ss.length - (ts ++ [SR.mk (some ⟨g1, 0, none⟩) row row.length]).length) (.slice none 0 0) = svs ts ++ .slice (some ⟨g1, 0, none⟩) row.length row.length :: List.replicate m (.slice none 0 0) := by
      rw [List.length_append, List.length_singleton, show ss.length - (ts.length + 1) = m by omega]
      simp [svs, srv]
    rw [e]
    exact o
  · intro s hs
    rcases List.mem_append.1 hs with h1 | h1
    · obtain ⟨b, e, q1, q2, q3, q4, q5⟩ := h.rows s h1
      exact ⟨b, e, q1, by rw [hsz]; exact Nat.lt_of_lt_of_le q2 hb.size, q3, (q4.below hb q4.1).apart hgs q3, q5⟩
    · simp at h1
      subst h1
      exact ⟨g1, rfl, by omega, by rw [hsz]; exact hc.1, hne, hc.apart hgs hne, Nat.le_refl _⟩
  · rw [List.map_append, List.nodup_append]
    refine ⟨h.apart, by simp, fun l hl l' hl' => ?_⟩
    obtain ⟨s, hs, rfl⟩ := List.mem_map.1 hl
    simp only [List.map_cons, List.map_nil, List.mem_singleton] at hl'
    subst hl'
    obtain ⟨b, e, _, q2, _⟩ := h.rows s hs
    rw [e]
    intro e2
    have e4 : b = g1 := congrArg Addr.block (Option.some.inj e2)
    omega
  · exact (h.bel.trans (hb.mono h.bel.size)).setCell (p := ⟨w.heap.size, ts.length, none⟩) (Nat.le_refl _) _
theorem TI.fin {w wr : World} {ss ts : List SR} (h : TI w wr ss ts) (hl : ts.length = ss.length) : rws ts = rws ss ∧ MW wr w.heap.size ts w.heap.size wr.heap.size := by
  refine ⟨by rw [h.rweq, hl, List.take_of_length_le (Nat.le_refl _)], ?_, Nat.le_refl _, h.out.1, h.rows, h.apart⟩
  have := h.out
  rwa [hl, Nat.sub_self, List.replicate_zero, List.append_nil] at this
/-- What a copy of a row of rows is. -/
def ToRows (ss : List SR) (w : World) (e : Ending) (w' : World) : Prop :=
  ∃ g ts, e = .returned (.slice (some ⟨g, 0, none⟩) ss.length ss.length) ∧ List.length (α := SR) ts = ss.length ∧ rws ts = rws ss ∧ MW w' g ts w.heap.size w'.heap.size ∧ Below w.heap.size w w'
/-- The size of rows of numbers, as the laws count it. -/
def msum : List SR → Nat
  | [] => 0
  | s :: ss => s.row.length + msum ss
theorem msum_take (ss : List SR) (k : Nat) (h : k < ss.length) : msum (ss.take (k + 1)) = msum (ss.take k) + ss[k].row.length := by
  induction ss generalizing k with
  | nil => simp at h
  | cons s ss ih =>
    cases k with
    | zero => simp [msum]
    | succ k =>
      have := ih k (by simpa using h)
      simp only [List.take_succ_cons, msum, this, List.getElem_cons_succ]
      omega
theorem msum_le (ss : List SR) (k : Nat) : msum (ss.take k) ≤ msum ss := by
  induction ss generalizing k with
  | nil => simp [msum]
  | cons s ss ih =>
    cases k with
    | zero => simp [msum]
    | succ k => have := ih k; simp only [List.take_succ_cons, msum]; omega
theorem msum_mem {ss : List SR} {s : SR} (h : s ∈ ss) : s.row.length ≤ msum ss := by
  induction ss with
  | nil => simp at h
  | cons t ss ih =>
    rcases List.mem_cons.1 h with rfl | h
    · simp only [msum]; omega
    · have := ih h; simp only [msum]; omega
/-- What is left of the room: or a number below 0. -/
def SzRows (left : Int) (n : Nat) (w : World) (e : Ending) (w' : World) : Prop := ∃ r : Int, e = .returned (.int .i64 r) ∧ w' = w ∧ ((n : Int) ≤ left → r = left - n) ∧ (left < n → r < 0)
end Go.Proofs.Ytcnjjbgilpgceaa
/- StrW: The size of a row of texts. -/
namespace Go.Proofs.Ytcnjjbgilpgceaa
set_option maxRecDepth 100000
open Go.RowKit
attribute [local go_sem ↓] Go.wp_at_zero Go.wp_at_succ

end Go.Proofs.Ytcnjjbgilpgceaa
/- LawLx: The exact laws of Expired, HolderOf (written by gen/mklawls.py). -/
namespace Go.Proofs.Ytcnjjbgilpgceaa
set_option maxRecDepth 100000
open Go.RowKit BigFrame
attribute [local go_sem ↓] Go.wp_at_zero Go.wp_at_succ
abbrev saS (v : Value) (X : List ByteArray) (lo hi : Nat) : Str := ⟨fun W => SAns W v X lo hi, lo, hi⟩
theorem saS.loc (v : Value) (X : List ByteArray) (lo hi : Nat) : (saS v X lo hi).Loc := fun _ _ _ _ h t hd => SAns.turned h t hd
theorem hide_ends {w W : World} {S : List Str} {v : Value} {X : List ByteArray} {lo hi : Nat} (h : Shut (SL w W (saS v X lo hi :: S))) : ∃ l h, Shut (SL w W (saS v X l h :: S)) := ⟨lo, hi, h⟩
theorem sans_of {w : World} {a : Option Addr} {L : List ByteArray} {c lo hi : Nat} (h : FRw w a (tv L) lo hi) (hc : L.length ≤ c) : SAns w (.slice a L.length c) L lo hi := by
  refine ⟨a, c, rfl, hc, ?_⟩
  rcases h with ⟨_, e⟩ | ⟨g, e, h1, h2, h3⟩
  · exact .inl (by simpa [tv] using e)
  · exact .inr ⟨g, e, h1, h2, h3⟩
set_option maxRecDepth 100000 in
set_option maxHeartbeats 8000000 in
theorem lawExpired (us : List LsM) (a : Option Addr) (cap : Nat) (now : Int) (RL : List ByteArray) (w : World) (hr : LsRow w a us) (hf : LsFits us) (hrl : RL.length ≤ 3000000 ∨ 1048576 < us.length)
    (hsp : us.length ≤ 1048576 → lsSum us ≤ 1048576 → ∀ (W : World) (b : Option Addr) (c : Nat), LsRow W b us → Calls Try.prog 20 #[.slice b us.length c, .int .i64 now] W fun e w' => TxPost RL W e w')
    (him : us.length ≤ 1048576 → lsSum us ≤ 1048576 → ∀ (W : World) (b : Option Addr) (c : Nat), LsRow W b us → Below w.heap.size w W → Calls Try.prog 16 #[.slice b us.length c, .int .i64 now] W fun e w' => TxPost RL W e w') :
    Calls Try.prog 8 #[.slice a us.length cap, .int .i64 now] w fun e w' => e = .returned (.bool true) ∧ Below w.heap.size w w' := by
  have HSZ := Shut.mk (szLeaseS_any a us cap 1048576 w hr hf (by omega) (by omega))
  have HTO := Shut.mk (fun (hl : us.length ≤ 1048576) (W : World) (hb : Below w.heap.size w W) => toLeaseS_any a us cap W (hr.stays hb) hl)
  have HSP := Shut.mk hsp
  have HIM := Shut.mk him
  have HEQ := Shut.mk (fun (hl : us.length ≤ 1048576) (W : World) (b c : Option Addr) (cb cc : Nat) (h1 : LsRow W b us) (h2 : LsRow W c us) => eqLeaseS_same b c us cb cc W h1 h2 (by omega))
  have HMH := Shut.mk (fun (hl : us.length ≤ 1048576) (W : World) (g lo hi : Nat) (h : FRw W (some ⟨g, 0, none⟩) (lsS us) lo hi) => markLeaseS_row (some ⟨g, 0, none⟩) us 1 us.length lo hi W h (by omega) (by omega) (Nat.le_refl _))
  unfold ToPostLs at HTO
  have HER := Shut.mk (fun (hrl : RL.length ≤ 3000000) (W : World) (v u : Value) (lo hi lo' hi' : Nat) (h1 : SAns W v RL lo hi) (h2 : SAns W u RL lo' hi') => eqStringS_val h1 h2 (by omega))
  have HMR := Shut.mk (fun (hrl : RL.length ≤ 3000000) (W : World) (v : Value) (lo hi : Nat) (h : SAns W v RL lo hi) => markStringS_val 1 h (by omega) (by omega))
  have HHR := Shut.mk (fun (hrl : RL.length ≤ 3000000) (W : World) (v : Value) (lo hi : Nat) (h : SAns W v (marks 1 RL.length) lo hi) => heldStringS_val h (by omega) (by omega))
  unfold TxPost at HSP HIM
  obtain ⟨n, hn⟩ : ∃ n, n = us.length := ⟨_, rfl⟩
  obtain ⟨m, hm⟩ : ∃ m, m = RL.length := ⟨_, rfl⟩
  rw [← hm] at HSP HIM HER HMR HHR hrl
  have HM := Shut.mk hm
  rw [← hn] at HSZ HTO HSP HIM HEQ HMH hrl ⊢
  clear hr hf hsp him hn hm
  go_enter Try.func8, Try.ntmps8
  go_wp2_with fail
  refine HSZ.out.mono ?_
  rintro e w1 ⟨r, rfl, r0, r1, hb⟩
  have H := Shut.mk ((SL.start w).below hb)
  clear hb
  by_cases hq : r < 0
  · clear r1
    go_wp2_with fail
    go_ret
    exact ⟨rfl, H.out.bel⟩
  have hr1 := r1 (by omega)
  have hnl : n ≤ 1048576 := by omega
  replace HTO := Shut.mk (HTO.out (by omega))
  replace HSP := Shut.mk (HSP.out (by omega) (by omega))
  replace HIM := Shut.mk (HIM.out (by omega) (by omega))
  replace HEQ := Shut.mk (HEQ.out (by omega))
  replace HMH := Shut.mk (HMH.out (by omega))
  have hml : m ≤ 3000000 := by omega
  replace HER := Shut.mk (HER.out (by omega))
  replace HMR := Shut.mk (HMR.out (by omega))
  replace HHR := Shut.mk (HHR.out (by omega))
  clear r1 hr1 r0 HSZ hrl
  go_wp2_with fail
  refine (HTO.out _ H.out.bel).mono ?_
  rintro e w2 ⟨gw2, rfl, hg, hw, hb⟩
  replace H := Shut.mk (H.out.below hb)
  have HW := Shut.mk hw.crow
  clear hb hw hg
  go_wp2_with fail
  refine (HSP.out _ _ _ HW.out).mono ?_
  rintro e w3 ⟨a3, c3, rfl, hF, hc, hb⟩
  replace H := Shut.mk (H.out.add (s := saS (.slice a3 m c3) RL _ w3.heap.size) hb (by rw [HM.out]; exact sans_of hF (by rw [← HM.out]; exact hc)) (saS.loc _ _ _ _) (Nat.le_refl _) (Nat.le_refl _))
  obtain ⟨l3, h3, H⟩ := hide_ends H
  clear hF hb hc HW
  go_wp2_with fail
  refine (HTO.out _ H.out.bel).mono ?_
  rintro e w5 ⟨g5, rfl, hg, hw, hb⟩
  replace H := Shut.mk (H.out.add (s := rwS (some ⟨g5, 0, none⟩) (lsS us) _ w5.heap.size) hb (FRw.of_wcells hw hg hw.1) (rwS.loc _ _ _ _) (Nat.le_refl _) (Nat.le_refl _))
  obtain ⟨l5, h5, H⟩ := hide_rw H
  clear hb hw hg
  go_wp2_with fail
  refine (HIM.out _ _ _ (show FRw _ _ _ _ _ from H.out.at 0 rfl).crow H.out.bel).mono ?_
  rintro e w7 ⟨a7, c7, rfl, hF, hc, hb⟩
  replace H := Shut.mk (H.out.add (s := saS (.slice a7 m c7) RL _ w7.heap.size) hb (by rw [HM.out]; exact sans_of hF (by rw [← HM.out]; exact hc)) (saS.loc _ _ _ _) (Nat.le_refl _) (Nat.le_refl _))
  obtain ⟨l7, h7, H⟩ := hide_ends H
  clear hF hb hc
  go_wp2_with fail
  refine (HER.out _ _ _ _ _ _ _ (H.out.at 0 rfl) (H.out.at 2 rfl)).mono ?_
  rintro e w8 ⟨rfl, hb⟩
  replace H := Shut.mk (H.out.below hb)
  clear hb
  go_wp2_with fail
  refine (HTO.out _ H.out.bel).mono ?_
  rintro e w9 ⟨gw9, rfl, hg, hw, hb⟩
  replace H := Shut.mk (H.out.below hb)
  have HW := Shut.mk hw.crow
  clear hb hw hg
  go_wp2_with fail
  refine (HEQ.out _ _ _ _ _ (show FRw _ _ _ _ _ from H.out.at 1 rfl).crow HW.out).mono ?_
  rintro e w10 ⟨rfl, hb⟩
  replace H := Shut.mk (H.out.below hb)
  clear hb HW
  go_wp2_with fail
  refine (HMH.out _ _ _ _ (H.out.at 1 rfl)).mono ?_
  rintro e w11 ⟨rfl, hF, row, hg8, hr8⟩
  replace H := Shut.mk (H.out.turn 1 rfl (turned_rw8 hg8 hr8) hF (rwS.loc _ _ _ _))
  clear hF hg8 hr8
  go_wp2_with fail
  refine (HER.out _ _ _ _ _ _ _ (H.out.at 0 rfl) (H.out.at 2 rfl)).mono ?_
  rintro e w12 ⟨rfl, hb⟩
  replace H := Shut.mk (H.out.below hb)
  clear hb
  go_wp2_with fail
  refine (HMR.out _ _ _ _ (H.out.at 0 rfl)).mono ?_
  rintro e w13 ⟨rfl, hF, hg8⟩
  replace H := Shut.mk (H.out.turn 0 rfl hg8 hF (saS.loc _ _ _ _))
  clear hF hg8
  go_wp2_with fail
  refine (HHR.out _ _ _ _ (H.out.at 0 rfl)).mono ?_
  rintro e w14 ⟨rfl, hb⟩
  replace H := Shut.mk (H.out.below hb)
  clear hb
  go_wp2_with fail
  refine (HTO.out _ H.out.bel).mono ?_
  rintro e w15 ⟨gw15, rfl, hg, hw, hb⟩
  replace H := Shut.mk (H.out.below hb)
  have HW := Shut.mk hw.crow
  clear hb hw hg
  go_wp2_with fail
  refine (HIM.out _ _ _ HW.out H.out.bel).mono ?_
  rintro e w16 ⟨a16, c16, rfl, hF, hc, hb⟩
  replace H := Shut.mk (H.out.add (s := saS (.slice a16 m c16) RL _ w16.heap.size) hb (by rw [HM.out]; exact sans_of hF (by rw [← HM.out]; exact hc)) (saS.loc _ _ _ _) (Nat.le_refl _) (Nat.le_refl _))
  obtain ⟨l16, h16, H⟩ := hide_ends H
  clear hF hb hc HW
  go_wp2_with fail
  refine (HER.out _ _ _ _ _ _ _ (H.out.at 0 rfl) (H.out.at 3 rfl)).mono ?_
  rintro e w17 ⟨rfl, hb⟩
  replace H := Shut.mk (H.out.below hb)
  clear hb
  go_wp2_with fail
  refine (HHR.out _ _ _ _ (H.out.at 1 rfl)).mono ?_
  rintro e w18 ⟨rfl, hb⟩
  replace H := Shut.mk (H.out.below hb)
  clear hb
  go_wp2_with fail
  go_ret
  exact ⟨rfl, H.out.bel⟩
set_option maxRecDepth 100000 in
set_option maxHeartbeats 8000000 in
theorem lawHolderOf (us : List LsM) (a : Option Addr) (cap : Nat) (p : ByteArray) (rv : Int) (w : World) (hr : LsRow w a us) (hf : LsFits us)
    (hsp : p.size ≤ 1048576 → us.length ≤ 1048576 → lsSum us ≤ 1048576 → ∀ (W : World) (b : Option Addr) (c : Nat), LsRow W b us → Calls Try.prog 33 #[.slice b us.length c, .string p] W fun e w' => e = .returned (.int .i64 rv) ∧ Below W.heap.size W w')
    (him : p.size ≤ 1048576 → us.length ≤ 1048576 → lsSum us ≤ 1048576 → ∀ (W : World) (b : Option Addr) (c : Nat), LsRow W b us → Below w.heap.size w W → Calls Try.prog 17 #[.slice b us.length c, .string p] W fun e w' => e = .returned (.int .i64 rv) ∧ Below W.heap.size W w') :
    Calls Try.prog 9 #[.slice a us.length cap, .string p] w fun e w' => e = .returned (.bool true) ∧ Below w.heap.size w w' := by
  by_cases hs : 1048576 < p.size
  · clear hr hf hsp him
    go_enter Try.func9, Try.ntmps9
    go_wp2_with fail
    go_ret
    exact ⟨rfl, Below.refl _ _⟩
  replace hsp := hsp (by omega)
  replace him := him (by omega)
  have HSZ := Shut.mk (szLeaseS_any a us cap 1048576 w hr hf (by omega) (by omega))
  have HTO := Shut.mk (fun (hl : us.length ≤ 1048576) (W : World) (hb : Below w.heap.size w W) => toLeaseS_any a us cap W (hr.stays hb) hl)
  have HSP := Shut.mk hsp
  have HIM := Shut.mk him
  have HEQ := Shut.mk (fun (hl : us.length ≤ 1048576) (W : World) (b c : Option Addr) (cb cc : Nat) (h1 : LsRow W b us) (h2 : LsRow W c us) => eqLeaseS_same b c us cb cc W h1 h2 (by omega))
  have HMH := Shut.mk (fun (hl : us.length ≤ 1048576) (W : World) (g lo hi : Nat) (h : FRw W (some ⟨g, 0, none⟩) (lsS us) lo hi) => markLeaseS_row (some ⟨g, 0, none⟩) us 1 us.length lo hi W h (by omega) (by omega) (Nat.le_refl _))
  unfold ToPostLs at HTO
  obtain ⟨n, hn⟩ : ∃ n, n = us.length := ⟨_, rfl⟩
  rw [← hn] at HSZ HTO HSP HIM HEQ HMH ⊢
  clear hr hf hsp him hn
  have hdd : (rv != rv) = false := by simp
  go_enter Try.func9, Try.ntmps9
  go_wp2_with fail
  refine HSZ.out.mono ?_
  rintro e w1 ⟨r, rfl, r0, r1, hb⟩
  have H := Shut.mk ((SL.start w).below hb)
  clear hb
  by_cases hq : r < 0
  · clear r1
    go_wp2_with fail
    go_ret
    exact ⟨rfl, H.out.bel⟩
  have hr1 := r1 (by omega)
  have hnl : n ≤ 1048576 := by omega
  replace HTO := Shut.mk (HTO.out (by omega))
  replace HSP := Shut.mk (HSP.out (by omega) (by omega))
  replace HIM := Shut.mk (HIM.out (by omega) (by omega))
  replace HEQ := Shut.mk (HEQ.out (by omega))
  replace HMH := Shut.mk (HMH.out (by omega))
  clear r1 hr1 r0 HSZ
  go_wp2_with fail
  refine (HTO.out _ H.out.bel).mono ?_
  rintro e w2 ⟨gw2, rfl, hg, hw, hb⟩
  replace H := Shut.mk (H.out.below hb)
  have HW := Shut.mk hw.crow
  clear hb hw hg
  go_wp2_with fail
  refine (HSP.out _ _ _ HW.out).mono ?_
  rintro e w3 ⟨rfl, hb⟩
  replace H := Shut.mk (H.out.below hb)
  clear hb HW
  go_wp2_with fail
  refine (HTO.out _ H.out.bel).mono ?_
  rintro e w5 ⟨g5, rfl, hg, hw, hb⟩
  replace H := Shut.mk (H.out.add (s := rwS (some ⟨g5, 0, none⟩) (lsS us) _ w5.heap.size) hb (FRw.of_wcells hw hg hw.1) (rwS.loc _ _ _ _) (Nat.le_refl _) (Nat.le_refl _))
  obtain ⟨l5, h5, H⟩ := hide_rw H
  clear hb hw hg
  go_wp2_with fail
  refine (HIM.out _ _ _ (show FRw _ _ _ _ _ from H.out.at 0 rfl).crow H.out.bel).mono ?_
  rintro e w7 ⟨rfl, hb⟩
  replace H := Shut.mk (H.out.below hb)
  clear hb
  go_wp2_with fail
  refine (HTO.out _ H.out.bel).mono ?_
  rintro e w9 ⟨gw9, rfl, hg, hw, hb⟩
  replace H := Shut.mk (H.out.below hb)
  have HW := Shut.mk hw.crow
  clear hb hw hg
  go_wp2_with fail
  refine (HEQ.out _ _ _ _ _ (show FRw _ _ _ _ _ from H.out.at 0 rfl).crow HW.out).mono ?_
  rintro e w10 ⟨rfl, hb⟩
  replace H := Shut.mk (H.out.below hb)
  clear hb HW
  go_wp2_with fail
  go_ret
  exact ⟨rfl, H.out.bel⟩
end Go.Proofs.Ytcnjjbgilpgceaa
/- LtM: Leases that go up by their paths, plain: where one belongs; what the program's search and its insertion make is what the document asks. -/
namespace Go.Proofs.Ytcnjjbgilpgceaa
set_option maxRecDepth 100000
open Go.RowKit

theorem lt9_iff (a b : ByteArray) : lt9 a b = true ↔ a.toList < b.toList := by
  unfold lt9
  rw [bytesLess_eq]
  simp
theorem lt9_trans {a b c : ByteArray} (h : lt9 a b = true) (k : lt9 b c = true) : lt9 a c = true := by
  rw [lt9_iff] at *
  exact List.lt_trans h k
theorem lt9_asymm {a b : ByteArray} (h : lt9 a b = true) : lt9 b a = false := by
  cases hq : lt9 b a with
  | false => rfl
  | true =>
    rw [lt9_iff] at h hq
    exact absurd hq (List.lt_asymm h)
theorem lt9_irr (a : ByteArray) : lt9 a a = false := by
  cases hq : lt9 a a with
  | false => rfl
  | true => have := lt9_asymm hq; rw [hq] at this; cases this
theorem lt9_tri {a b : ByteArray} (h : lt9 a b = false) (k : (a.toList == b.toList) = false) : lt9 b a = true := by
  have h1 : ¬ a.toList < b.toList := fun e => by rw [(lt9_iff a b).2 e] at h; cases h
  rw [lt9_iff]
  by_cases h4 : b.toList < a.toList
  · exact h4
  · have := List.le_antisymm (List.not_lt.1 h1) (List.not_lt.1 h4)
    rw [this] at k
    simp at k
theorem less_not (x y : ByteArray) (h : Op.bytesLess x.toList y.toList = false) (k : Op.bytesLess y.toList x.toList = true) : (x.toList == y.toList) = false := by
  cases hq : (x.toList == y.toList) with
  | false => rfl
  | true =>
    rw [beq_iff_eq.1 hq] at h
    rw [beq_iff_eq.1 hq, h] at k
    cases k
theorem same_of_not {x y : ByteArray} (h : Op.bytesLess x.toList y.toList = false) (k : Op.bytesLess y.toList x.toList = false) : (x.toList == y.toList) = true := by
  cases hq : (x.toList == y.toList) with
  | true => rfl
  | false =>
    have := lt9_tri (a := x) (b := y) h hq
    unfold lt9 at this
    rw [k] at this
    cases this
theorem ba_eq {a b : ByteArray} (h : (a.toList == b.toList) = true) : a = b := by
  have h := beq_iff_eq.1 h
  rw [Go.ByteArray.toList_eq, Go.ByteArray.toList_eq] at h
  exact ByteArray.ext (Array.toList_inj.1 h)
/-- How two texts lie. -/
def cmpS (a b : ByteArray) : Int := if lt9 a b = true then -1 else if lt9 b a = true then 1 else 0
theorem cmpS_neg (a b : ByteArray) : cmpS a b < 0 ↔ lt9 a b = true := by
  unfold cmpS
  split
  · simp [*]
  · split <;> simp [*]
theorem cmpS_zero (a b : ByteArray) : cmpS a b = 0 ↔ (a.toList == b.toList) = true := by
  unfold cmpS
  split
  · rename_i h
    refine ⟨fun e => (by cases e), fun e => ?_⟩
    rw [ba_eq e, lt9_irr] at h
    cases h
  · rename_i h
    split
    · rename_i k
      refine ⟨fun e => (by cases e), fun e => ?_⟩
      rw [ba_eq e, lt9_irr] at k
      cases k
    · rename_i k
      refine ⟨fun _ => ?_, fun _ => rfl⟩
      cases hq : (a.toList == b.toList) with
      | true => rfl
      | false => exact absurd (lt9_tri (by simpa using h) hq) k
/-- Leases that go up. -/
def UpL (L : List LsM) : Prop := L.Pairwise fun a b => lt9 a.path b.path = true
theorem lsAt_get {L : List LsM} {k : Nat} (hk : k < L.length) : lsAt L k = (lsOne L[k] && (decide (k = 0) || lt9 (L.getD (k - 1) default).path L[k].path)) := by
  unfold lsAt
  rw [getD_ls L k hk]
theorem upl_of_ok {L : List LsM} (h : leasesOk L = true) : UpL L := by
  have hk : ∀ k (hk : k + 1 < L.length), lt9 L[k].path L[k + 1].path = true := fun k hk => by
    have := leasesOk_at h (k + 1) hk
    rw [lsAt_get hk] at this
    simp only [Bool.and_eq_true, Bool.or_eq_true, decide_eq_true_eq, Nat.add_one_ne_zero, false_or, Nat.add_sub_cancel] at this
    rw [getD_ls L k (by omega)] at this
    exact this.2
  refine List.pairwise_iff_getElem.2 fun i j hi hj hij => ?_
  induction j with
  | zero => omega
  | succ j ih =>
    rcases Nat.lt_or_eq_of_le (Nat.le_of_lt_succ hij) with e | e
    · exact lt9_trans (ih (by omega) e) (hk j hj)
    · subst e
      exact hk i hj
theorem ones_of_ok {L : List LsM} (h : leasesOk L = true) : ∀ u ∈ L, lsOne u = true := fun u hu => by
  obtain ⟨k, hk, rfl⟩ := List.getElem_of_mem hu
  have := leasesOk_at h k hk
  rw [lsAt_get hk] at this
  simp only [Bool.and_eq_true] at this
  exact this.1
theorem ok_of_upl {L : List LsM} (h : UpL L) (h1 : ∀ u ∈ L, lsOne u = true) (h8 : L.length ≤ 8) : leasesOk L = true := by
  refine leasesOk_mk (fun k hk => ?_) h8
  rw [lsAt_get hk, h1 _ (List.getElem_mem hk)]
  by_cases h0 : k = 0
  · simp [h0]
  · rw [getD_ls L (k - 1) (by omega), List.pairwise_iff_getElem.1 h (k - 1) k (by omega) hk (by omega)]
    simp
/-- Where a path belongs, and whether it is there. -/
def posL (L : List LsM) (p : ByteArray) : Nat := (lsLow L p).length
def hereL (L : List LsM) (p : ByteArray) : Bool := decide (lsIdx L p < L.length)
/-- A place that parts the leases is the one. -/
theorem low_is {L : List LsM} {p : ByteArray} {i : Nat} (h1 : ∀ j (hj : j < L.length), j < i → lt9 L[j].path p = true) (h2 : ∀ j (hj : j < L.length), i ≤ j → lt9 L[j].path p = false) : lsLow L p = L.take i := by
  have a1 : ∀ x ∈ L.take i, lt9 x.path p = true := fun x hx => by
    obtain ⟨j, hj, rfl⟩ := List.getElem_of_mem hx
    rw [List.length_take] at hj
    rw [List.getElem_take]
    exact h1 j (by omega) (by omega)
  have a2 : ∀ x ∈ L.drop i, lt9 x.path p = false := fun x hx => by
    obtain ⟨j, hj, rfl⟩ := List.getElem_of_mem hx
    rw [List.length_drop] at hj
    rw [List.getElem_drop]
    exact h2 (i + j) (by omega) (by omega)
  unfold lsLow
  conv => lhs; rw [← List.take_append_drop i L]
  rw [List.filter_append, List.filter_eq_self.2 a1, List.filter_eq_nil_iff.2 (fun x hx => by rw [a2 x hx]; simp), List.append_nil]
theorem pos_is {L : List LsM} {p : ByteArray} {i : Nat} (hi : i ≤ L.length) (h1 : ∀ j (hj : j < L.length), j < i → lt9 L[j].path p = true) (h2 : ∀ j (hj : j < L.length), i ≤ j → lt9 L[j].path p = false) : posL L p = i := by
  unfold posL
  rw [low_is h1 h2, List.length_take]
  omega
/-- Of leases that go up the place of a path parts them. -/
theorem pos_low {L : List LsM} (hs : UpL L) (p : ByteArray) : (∀ j (hj : j < L.length), j < posL L p → lt9 L[j].path p = true) ∧ (∀ j (hj : j < L.length), posL L p ≤ j → lt9 L[j].path p = false) ∧ posL L p ≤ L.length := by
  unfold UpL at hs
  have key : ∃ i, i ≤ L.length ∧ (∀ j (hj : j < L.length), j < i → lt9 L[j].path p = true) ∧ (∀ j (hj : j < L.length), i ≤ j → lt9 L[j].path p = false) := by
    induction L with
    | nil => exact ⟨0, Nat.le_refl _, fun j hj => by simp at hj, fun j hj => by simp at hj⟩
    | cons x L ih =>
      have hc := List.pairwise_cons.1 hs
      cases hx : lt9 x.path p with
      | true =>
        obtain ⟨i, hi, g1, g2⟩ := ih hc.2
        refine ⟨i + 1, by simpa using hi, fun j hj hji => ?_, fun j hj hji => ?_⟩
        · cases j with
          | zero => exact hx
          | succ j => exact g1 j (by simpa using hj) (by omega)
        · cases j with
          | zero => omega
          | succ j => exact g2 j (by simpa using hj) (by omega)
      | false =>
        refine ⟨0, Nat.zero_le _, fun j _ hji => by omega, fun j hj _ => ?_⟩
        cases j with
        | zero => exact hx
        | succ j =>
          have hj' : j < L.length := by simpa using hj
          show lt9 L[j].path p = false
          cases hq : lt9 L[j].path p with
          | false => rfl
          | true => rw [lt9_trans (hc.1 _ (List.getElem_mem hj')) hq] at hx; cases hx
  obtain ⟨i, hi, g1, g2⟩ := key
  rw [pos_is hi g1 g2]
  exact ⟨g1, g2, hi⟩
/-- It is there just when it lies at its place. -/
theorem here_iff {L : List LsM} (hs : UpL L) (p : ByteArray) : hereL L p = true ↔ ∃ h : posL L p < L.length, (L[posL L p].path.toList == p.toList) = true := by
  obtain ⟨g1, g2, g3⟩ := pos_low hs p
  unfold hereL
  rw [decide_eq_true_eq]
  constructor
  · intro h
    obtain ⟨k, hk⟩ : ∃ k, k = lsIdx L p := ⟨_, rfl⟩
    have he : (L[lsIdx L p].path.toList == p.toList) = true := by
      unfold lsIdx
      exact List.findIdx_getElem (w := h)
    have hb := ba_eq he
    have h1 : posL L p ≤ lsIdx L p := by
      rcases Nat.lt_or_ge (lsIdx L p) (posL L p) with e | e
      · have := g1 _ h e; rw [hb, lt9_irr] at this; cases this
      · exact e
    rcases Nat.lt_or_eq_of_le h1 with e | e
    · have q1 := List.pairwise_iff_getElem.1 hs (posL L p) (lsIdx L p) (by omega) h e
      have q2 := g2 (posL L p) (by omega) (Nat.le_refl _)
      rw [hb] at q1
      rw [q1] at q2
      cases q2
    · have : posL L p < L.length := by omega
      refine ⟨this, ?_⟩
      have e2 : L[posL L p] = L[lsIdx L p] := by congr 1
      rw [e2]
      exact he
  · rintro ⟨h, e⟩
    unfold lsIdx
    exact List.findIdx_lt_length_of_exists ⟨_, List.getElem_mem h, e⟩
theorem idx_here {L : List LsM} (hs : UpL L) {p : ByteArray} (h : hereL L p = true) : lsIdx L p = posL L p := by
  obtain ⟨h1, h2⟩ := (here_iff hs p).1 h
  obtain ⟨g1, _, _⟩ := pos_low hs p
  refine lsIdx_found h1 h2 fun j hj hji => ?_
  cases hq : (L[j].path.toList == p.toList) with
  | false => rfl
  | true => have := g1 j hj hji; rw [ba_eq hq, lt9_irr] at this; cases this
theorem high_is {L : List LsM} (hs : UpL L) {p : ByteArray} (h : hereL L p = false) : lsHigh L p = L.drop (posL L p) := by
  obtain ⟨g1, g2, g3⟩ := pos_low hs p
  have a1 : ∀ x ∈ L.take (posL L p), (!(lt9 x.path p) && !(x.path.toList == p.toList)) = false := fun x hx => by
    obtain ⟨j, hj, rfl⟩ := List.getElem_of_mem hx
    rw [List.length_take] at hj
    rw [List.getElem_take, g1 j (by omega) (by omega)]
    rfl
  have a2 : ∀ x ∈ L.drop (posL L p), (!(lt9 x.path p) && !(x.path.toList == p.toList)) = true := fun x hx => by
    obtain ⟨j, hj, rfl⟩ := List.getElem_of_mem hx
    rw [List.length_drop] at hj
    rw [List.getElem_drop, g2 _ (by omega) (by omega)]
    cases hq : (L[posL L p + j].path.toList == p.toList) with
    | false => rfl
    | true =>
      have : hereL L p = true := by
        unfold hereL lsIdx
        rw [decide_eq_true_eq]
        exact List.findIdx_lt_length_of_exists ⟨_, List.getElem_mem (by omega), hq⟩
      rw [h] at this
      cases this
  unfold lsHigh
  conv => lhs; rw [← List.take_append_drop (posL L p) L]
  rw [List.filter_append, List.filter_eq_self.2 a2, List.filter_eq_nil_iff.2 (fun x hx => by rw [a1 x hx]; simp), List.nil_append]
/-- What is taken. -/
def mayX (f : LsM) (who now : Int) : Bool := (f.who == who) || (inI f.seen 0 1000000000 && inI now 0 1000000000 && decide (5 ≤ now - f.seen))
theorem take_is {L : List LsM} (p : ByteArray) (who now : Int) (h : takeOk L p who now = true) :
    takeX L p who now = if hereL L p = true then (if mayX (L.getD (posL L p) default) who now = true then (L.set (posL L p) ⟨p, who, now⟩, true) else (L, false)) else if L.length = 8 then (L, false) else (L.take (posL L p) ++ [⟨p, who, now⟩] ++ L.drop (posL L p), true) := by
  have hok : leasesOk L = true := by unfold takeOk at h; simp only [Bool.and_eq_true] at h; exact h.1.1.1
  have hnow : inI now 0 1000000000 = true := by unfold takeOk at h; simp only [Bool.and_eq_true] at h; exact h.2
  have hs := upl_of_ok hok
  unfold takeX
  rw [if_pos h]
  by_cases hh : hereL L p = true
  · have hi := idx_here hs hh
    obtain ⟨h1, h2⟩ := (here_iff hs p).1 hh
    rw [if_pos hh, hi, if_pos h1, getD_ls L _ h1]
    have hseen : inI L[posL L p].seen 0 1000000000 = true := by
      have := ones_of_ok hok _ (List.getElem_mem h1)
      unfold lsOne at this
      simp only [Bool.and_eq_true] at this
      exact this.2
    have hm : mayX L[posL L p] who now = true ↔ ¬ (L[posL L p].who ≠ who ∧ now - L[posL L p].seen < 5) := by
      unfold mayX
      rw [hseen, hnow]
      simp
      omega
    by_cases hm' : mayX L[posL L p] who now = true
    · rw [if_pos hm', if_neg (hm.1 hm'), ba_eq h2]
    · rw [if_neg hm', if_pos (Classical.byContradiction fun e => hm' (hm.2 e))]
  · rw [if_neg hh]
    have hh' : hereL L p = false := by simpa using hh
    have : ¬ lsIdx L p < L.length := by unfold hereL at hh; simpa using hh
    rw [if_neg this, high_is hs hh', low_is (pos_low hs p).1 (pos_low hs p).2.1]
end Go.Proofs.Ytcnjjbgilpgceaa
/- PaI: The program's own NameOk: its text is gone through rune by rune. -/
namespace Go.Proofs.Ytcnjjbgilpgceaa
set_option maxRecDepth 100000
open Go.RowKit
open Go.PlainAid (bt)
attribute [local go_sem ↓] Go.wp_at_zero Go.wp_at_succ

theorem get_bt9 (s : ByteArray) (j : Nat) (h : j < s.size) : bt s j = ((s.get! j).toNat : Int) := by
  unfold bt
  rw [dif_pos h]
  simp [ByteArray.get!, getElem!_pos, h]
  rfl
/-- A rune that is no byte below 128 goes over bytes from 128 on alone, and not past the end. -/
theorem decode_far (s : ByteArray) (pos : Nat) (h : pos < s.size) (ha : 128 ≤ bt s pos) : pos + (Utf8.decode s pos).2 ≤ s.size ∧ (Utf8.decode s pos).2 ≤ 4 ∧ ∀ d, d < (Utf8.decode s pos).2 → 128 ≤ bt s (pos + d) := by
  have hg := fun d (q : pos + d < s.size) => get_bt9 s (pos + d) q
  have g0 := hg 0 (by omega)
  simp only [Nat.add_zero] at g0
  have g1 := hg 1
  have g2 := hg 2
  have g3 := hg 3
  clear hg
  have hn : ¬ (s.get! (pos + 0)).toNat < 128 := by simp only [Nat.add_zero]; omega
  simp only [Utf8.decode, hn, if_false]
  have hone : pos + 1 ≤ s.size ∧ 1 ≤ 4 ∧ ∀ d, d < 1 → 128 ≤ bt s (pos + d) := ⟨by omega, by omega, fun d hd => by
    have : d = 0 := by omega
    subst this; exact ha⟩
  split
  · rename_i q
    simp only [Bool.and_eq_true, decide_eq_true_eq, beq_iff_eq] at q
    split
    · refine ⟨by simp only; omega, by simp only; omega, fun d hd => ?_⟩
      have h1 := g1 q.2.1
      rcases (show d = 0 ∨ d = 1 from by simp only at hd; omega) with rfl | rfl
      · exact ha
      · rw [h1]; omega
    · exact hone
  · split
    · rename_i q
      simp only [Bool.and_eq_true, decide_eq_true_eq, beq_iff_eq] at q
      split
      · refine ⟨by simp only; omega, by simp only; omega, fun d hd => ?_⟩
        have h1 := g1 q.1.2.1
        have h2 := g2 q.2.1
        rcases (show d = 0 ∨ d = 1 ∨ d = 2 from by simp only at hd; omega) with rfl | rfl | rfl
        · exact ha
        · rw [h1]; omega
        · rw [h2]; omega
      · exact hone
    · split
      · rename_i q
        simp only [Bool.and_eq_true, decide_eq_true_eq, beq_iff_eq] at q
        split
        · refine ⟨by simp only; omega, by simp only; omega, fun d hd => ?_⟩
          have h1 := g1 q.1.1.2.1
          have h2 := g2 q.1.2.1
          have h3 := g3 q.2.1
          rcases (show d = 0 ∨ d = 1 ∨ d = 2 ∨ d = 3 from by simp only at hd; omega) with rfl | rfl | rfl | rfl
          · exact ha
          · rw [h1]; omega
          · rw [h2]; omega
          · rw [h3]; omega
        · exact hone
      · exact hone
theorem rune_low (s : ByteArray) (pos : Nat) (h : pos < s.size) (ha : bt s pos < 128) : ((Utf8.decode s pos).1 : Int) = bt s pos ∧ (Utf8.decode s pos).2 = 1 := by
  have e : bt s pos = ((s[pos]'h).toNat : Int) := by unfold bt; rw [dif_pos h]
  rw [decode_ascii s pos h (by omega), e]
  exact ⟨rfl, rfl⟩
theorem rune_high (s : ByteArray) (pos : Nat) (h : pos < s.size) (ha : 128 ≤ bt s pos) : (128 : Int) ≤ ((Utf8.decode s pos).1 : Int) ∧ 1 ≤ (Utf8.decode s pos).2 := by
  have e : bt s pos = ((s[pos]'h).toNat : Int) := by unfold bt; rw [dif_pos h]
  have := decode_high s pos h (by omega)
  omega
theorem implNameRune (r : Int) (b : Bool) (hb : b = true ↔ nameN r) (w : World) : Calls Try.prog 103 #[.int .i32 r] w fun e w' => e = .returned (.bool b) ∧ w' = w := by
  have HB := Shut.mk hb
  clear hb
  unfold nameN at HB
  by_cases c1 : 97 ≤ r
  · by_cases c2 : r ≤ 122
    · have hb : b = true := HB.out.2 (by omega)
      subst hb
      go_enter Try.func103, Try.ntmps103
      go_wp2_with fail
      go_ret
      exact ⟨rfl, rfl⟩
    · have c3 : 48 ≤ r := by omega
      have c4 : ¬ r ≤ 57 := by omega
      have hb : b = false := by cases b with | false => rfl | true => exact absurd (HB.out.1 rfl) (by omega)
      subst hb
      go_enter Try.func103, Try.ntmps103
      go_wp2_with fail
      go_ret
      exact ⟨rfl, rfl⟩
  · by_cases c3 : 48 ≤ r
    · by_cases c4 : r ≤ 57
      · have hb : b = true := HB.out.2 (by omega)
        subst hb
        go_enter Try.func103, Try.ntmps103
        go_wp2_with fail
        go_ret
        exact ⟨rfl, rfl⟩
      · have hb : b = false := by cases b with | false => rfl | true => exact absurd (HB.out.1 rfl) (by omega)
        subst hb
        go_enter Try.func103, Try.ntmps103
        go_wp2_with fail
        go_ret
        exact ⟨rfl, rfl⟩
    · have hb : b = false := by cases b with | false => rfl | true => exact absurd (HB.out.1 rfl) (by omega)
      subst hb
      go_enter Try.func103, Try.ntmps103
      go_wp2_with fail
      go_ret
      exact ⟨rfl, rfl⟩
theorem iter_below (w : World) (s : ByteArray) (pos : Nat) : Below w.heap.size w (w.iter s pos) := (Below.refl _ _).alloc (Nat.le_refl _) _
set_option maxRecDepth 100000 in
set_option maxHeartbeats 1000000 in
theorem implNameOk (s : ByteArray) (w : World) (hs : s.size ≤ 1048576) : Calls Try.prog 101 #[.string s] w fun e w' => e = .returned (.bool (nameB s)) ∧ Below w.heap.size w w' := by
  obtain ⟨r, hre⟩ : ∃ r, r = nameB s := ⟨_, rfl⟩
  have HRE := Shut.mk hre
  rw [← hre]
  clear hre
  have hnot (q : ¬ (1 ≤ s.size ∧ s.size ≤ 8)) : r = false := by
    rw [HRE.out]
    cases e : nameB s with
    | false => rfl
    | true => exact absurd ((nameB_iff s).1 e).2 q
  by_cases h1 : s.size < 1
  · have hr := hnot (by omega)
    subst hr
    have h1' : (s.size : Int) < 1 := by omega
    go_enter Try.func101, Try.ntmps101
    go_wp2_with fail
    go_ret
    exact ⟨rfl, Below.refl _ _⟩
  have h1' : ¬ (s.size : Int) < 1 := by omega
  by_cases h8 : 8 < s.size
  · have hr := hnot (by omega)
    subst hr
    have h8' : (8 : Int) < (s.size : Int) := by omega
    go_enter Try.func101, Try.ntmps101
    go_wp2_with fail
    go_ret
    exact ⟨rfl, Below.refl _ _⟩
  have h8' : ¬ (8 : Int) < (s.size : Int) := by omega
  clear hnot
  go_enter Try.func101, Try.ntmps101
  go_wp2_with fail
  go_loopw [2] (fun v wr => ∃ (pos : Nat), v = .bool false ∧ wr = w.iter s pos ∧ pos ≤ s.size ∧ Shut (∀ j, j < pos → nameN (bt s j))) (fun _ wr => s.size - wr.iterPos w.heap.size)
  case atStart => exact ⟨0, rfl, rfl, Nat.zero_le _, ⟨fun j hj => by omega⟩⟩
  case round =>
    obtain ⟨pos, rfl, rfl, hp, hall⟩ := hrel
    by_cases hlt : pos < s.size
    · have hnx : ∀ ty, (Instr.next (.pointer (some ⟨w.heap.size, 0, none⟩)) true ty).run Try.prog (w.iter s pos) = _ := fun ty => run_next_any w s pos ty hlt
      have hlow := rune_low s pos hlt
      have hhigh := rune_high s pos hlt
      generalize Utf8.decode s pos = D at *
      obtain ⟨rn, wd⟩ := D
      simp only at hlow hhigh hnx
      by_cases hn : nameN (bt s pos)
      · have hl : bt s pos < 128 := by unfold nameN at hn; omega
        obtain ⟨e1, rfl⟩ := hlow hl
        have HN := Shut.mk (fun W => implNameRune (rn : Int) true (by rw [e1]; exact ⟨fun _ => hn, fun _ => rfl⟩) W)
        have HA : Shut (∀ j, j < pos + 1 → nameN (bt s j)) := ⟨fun j hj => by
          by_cases e : j = pos
          · subst e; exact hn
          · exact hall.out j (by omega)⟩
        clear hn hlow hhigh e1 hl hall
        go_wp2_with fail
        refine (HN.out _).mono ?_
        rintro e w1 ⟨rfl, hw⟩
        subst hw
        go_wp2_with fail
        go_roundw
        case rel => exact ⟨pos + 1, rfl, rfl, by omega, HA⟩
        case measure => simp; omega
      · have hr : r = false := HRE.out.trans (nameB_no hlt hn)
        have HN := Shut.mk (fun W => implNameRune (rn : Int) false (by
          refine ⟨fun q => (Bool.noConfusion q), fun q => ?_⟩
          exfalso
          by_cases hl : bt s pos < 128
          · rw [(hlow hl).1] at q; exact hn q
          · have := (hhigh (by omega)).1
            unfold nameN at q
            omega) W)
        subst hr
        clear hn hlow hhigh hall
        go_wp2_with fail
        refine (HN.out _).mono ?_
        rintro e w1 ⟨rfl, hw⟩
        subst hw
        go_wp2_with fail
        go_ret
        exact ⟨rfl, iter_below _ _ _⟩
    · have hnx : ∀ ty, (Instr.next (.pointer (some ⟨w.heap.size, 0, none⟩)) true ty).run Try.prog (w.iter s pos) = _ := fun ty => run_next_end w s pos ty hlt
      have hr : r = true := HRE.out.trans ((nameB_iff s).2 ⟨fun j hj => hall.out j (by omega), by omega, by omega⟩)
      subst hr
      go_wp2_with fail
      go_ret
      exact ⟨rfl, iter_below _ _ _⟩
end Go.Proofs.Ytcnjjbgilpgceaa
/- PaJ: The program's own way through a path: what lies between slashes. -/
namespace Go.Proofs.Ytcnjjbgilpgceaa
set_option maxRecDepth 100000
open Go.RowKit
open Go.PlainAid (bt)
attribute [local go_sem ↓] Go.wp_at_zero Go.wp_at_succ

/-- Where the way through a text stands. -/
structure BwRel (p : ByteArray) (i bg : Nat) (done : List ByteArray) : Prop where
  le : bg ≤ i
  clean : ∀ j, bg ≤ j → j < i → bt p j ≠ 47
  sofar : (segs (lb p)).map ba = done ++ (segs ((lb p).drop bg)).map ba
theorem BwRel.start {p : ByteArray} : BwRel p 0 0 [] := ⟨Nat.le_refl _, fun j h1 h2 => by omega, rfl⟩
theorem BwRel.step {p : ByteArray} {i bg wd : Nat} {done : List ByteArray} (h : BwRel p i bg done) (hc : ∀ d, d < wd → bt p (i + d) ≠ 47) : BwRel p (i + wd) bg done :=
  ⟨by have := h.le; omega, fun j h1 h2 => by
    by_cases e : j < i
    · exact h.clean j h1 e
    · have := hc (j - i) (by omega)
      rwa [show i + (j - i) = j from by omega] at this, h.sofar⟩
theorem BwRel.cut {p : ByteArray} {i bg : Nat} {done : List ByteArray} (h : BwRel p i bg done) (hi : i < p.size) (hc : bt p i = 47) : BwRel p (i + 1) (i + 1) (done ++ [p.extract bg i]) := by
  refine ⟨Nat.le_refl _, fun j h1 h2 => by omega, ?_⟩
  have hl : (lb p).length = p.size := rfl
  have e : (lb p).drop bg = ((lb p).drop bg).take (i - bg) ++ 47 :: (lb p).drop (i + 1) := by
    have h1 : ((lb p).drop bg).drop (i - bg) = 47 :: (lb p).drop (i + 1) := by
      rw [List.drop_drop, show bg + (i - bg) = i from by have := h.le; omega, List.drop_eq_getElem_cons (by omega)]
      congr 1
      have := bt_at hi
      rw [hc] at this
      have h2 : ((lb p)[i]'(by omega)).toNat = 47 := by omega
      exact UInt8.toNat_inj.1 h2
    rw [← h1, List.take_append_drop]
  rw [h.sofar, e, segs_cut _ _ (clean_list (by omega) h.clean), List.map_cons, List.append_assoc]
  congr 1
  rw [← ext_list, ba_lb]; rfl
theorem BwRel.fin {p : ByteArray} {i bg : Nat} {done : List ByteArray} (h : BwRel p i bg done) (hi : i = p.size) : (segs (lb p)).map ba = done ++ [p.extract bg p.size] := by
  have hl : (lb p).length = p.size := rfl
  subst hi
  have e : (lb p).drop bg = ((lb p).drop bg).take (p.size - bg) := by rw [List.take_of_length_le (by rw [List.length_drop]; omega)]
  rw [h.sofar, e, segs_none _ (clean_list (by omega) h.clean), List.map_cons, List.map_nil, ← ext_list, ba_lb]
theorem slice_from (s : ByteArray) (a : Nat) (h : a ≤ s.size) (w : World) : (Instr.slice 9 (.string s) (some (.int .i64 a)) none none).run Try.prog w = .ok (.string (s.extract a s.size)) w := by
  rw [run_slice_string_from_if w 9 s .i64 a Try.underlying9, if_pos ⟨by omega, by omega⟩]
  rfl
theorem own_iter9 {w : World} {B e size n : Nat} {v : Value} {xs : List Value} {k : Nat} {s : ByteArray} {pos : Nat} (h : w.ownsRow B e size v n xs) (hk : w.heap[k]? = some (.stringIter s pos)) (pos' : Nat) : (w.iterAt k s pos').ownsRow B e size v n xs := by
  refine ⟨h.1, h.2.imp id fun ⟨g, cap, cur, hv, hb, hg, rest⟩ => ⟨g, cap, cur, hv, hb, ?_, rest⟩⟩
  rw [Lib.iterAt_other _ _ _ _ _ (fun e => by subst e; rw [hk] at hg; cases hg)]
  exact hg
theorem own_ne9 {w : World} {B e size n : Nat} {v : Value} {xs : List Value} {k : Nat} {s : ByteArray} {pos : Nat} (h : w.ownsRow B e size v n xs) (hk : w.heap[k]? = some (.stringIter s pos)) : some k ≠ v.ownBlock := by
  rcases h.2 with ⟨rfl, _⟩ | ⟨g, cap, cur, rfl, hb, hg, rest⟩
  · exact fun e => nomatch e
  · intro e
    cases e
    rw [hk] at hg
    cases hg
set_option maxRecDepth 100000 in
set_option maxHeartbeats 2000000 in
theorem implBetween (p : ByteArray) (w : World) (hs : p.size ≤ 1048576) : Calls Try.prog 100 #[.string p] w fun e w' => ∃ v, e = .returned v ∧ w'.ownsRow w.heap.size 9 1 v (segs (lb p)).length (tv ((segs (lb p)).map ba)) ∧ Below w.heap.size w w' := by
  obtain ⟨i0, hi, hz0, hz1, hz2⟩ := info_parts infoTextG
  have hb := Go.PlainAid.get_bt p
  go_enter Try.func100, Try.ntmps100
  go_wp2_with fail
  go_loopw [3, 4] (fun v bg wr => ∃ (pos g : Nat) (done : List ByteArray) (vv : Value), vv = v ∧ bg = .int .i64 g ∧ wr.heap[w.heap.size]? = some (.stringIter p pos) ∧ pos ≤ p.size ∧ g ≤ pos ∧ done.length ≤ pos ∧ Shut (BwRel p pos g done) ∧ Shut (wr.ownsRow w.heap.size 9 1 vv done.length (tv done)) ∧ Shut (Below w.heap.size w wr)) (fun _ _ wr => p.size - wr.iterPos w.heap.size)
  case atStart => exact ⟨0, 0, [], _, rfl, rfl, World.iter_heap _ _ _, Nat.zero_le _, Nat.le_refl _, by simp, ⟨BwRel.start⟩, ⟨⟨rfl, .inl ⟨rfl, rfl⟩⟩⟩, ⟨iter_below _ _ _⟩⟩
  case round =>
    obtain ⟨pos, g, done, v, rfl, rfl, hit, hp, hg, hd, hrl, hown, hbl⟩ := hrel
    have hB := hbl.out.size
    have hB1 : w.heap.size < wr.heap.size := (Array.getElem?_eq_some_iff.1 hit).1
    by_cases hlt : pos < p.size
    · have hlow := rune_low p pos hlt
      have hhigh := rune_high p pos hlt
      have hfar := decode_far p pos hlt
      obtain ⟨rn, wd, hD⟩ : ∃ rn wd, Utf8.decode p pos = (rn, wd) := ⟨_, _, rfl⟩
      have hnx : ∀ ty, (Instr.next (.pointer (some ⟨w.heap.size, 0, none⟩)) true ty).run Try.prog wr = _ := fun ty => Lib.run_next_any_at wr w.heap.size p pos ty hit hlt
      rw [hD] at hlow hhigh hfar hnx
      simp only at hlow hhigh hfar hnx
      generalize (rn : Int) = R at hlow hhigh hnx
      have hitp := iterPos_of hit
      have hit1 := Lib.iterAt_heap wr w.heap.size p pos (pos + wd) hit
      have hown1 := own_iter9 hown.out hit (pos + wd)
      have hbl1 := Lib.below_iterAt hbl.out (Nat.le_refl _) p (pos + wd)
      have hsz1 : w.heap.size < (wr.iterAt w.heap.size p (pos + wd)).heap.size := by rw [Lib.iterAt_size]; exact hB1
      generalize wr.iterAt w.heap.size p (pos + wd) = W1 at *
      clear hD hbl hown hit
      by_cases hc : bt p pos = 47
      · obtain ⟨e1, rfl⟩ := hlow (by omega)
        have hrn : R = 47 := by omega
        have hrn' : (R == 47) = true := by rw [hrn]; rfl
        have HR := Shut.mk (hrl.out.cut hlt hc)
        have hsl := slice_str p g pos hg (by omega)
        have hne := own_ne9 hown1 hit1
        have HB1 := Shut.mk hbl1
        generalize p.extract g pos = x at *
        clear hlow hhigh hfar hrl hc e1 hrn hbl1
        go_wp2_with (at_builtin; refine wpList_append_own _ rfl _ _ 32 rfl w.heap.size 9 i0 (.string ⟨#[]⟩) 1 16 Try.underlying32 hi hz0 hz1 hz2 rfl (by decide) _ _ _ rfl (hown1.alloc _) ⟨W1.heap.size, 0, none⟩ 1 1 [.string x] rfl rfl (cell_one_new _ _ _) ?c2 ?c3 ?c4 ?c5 ?_)
        case c2 => first | rfl | (intro u hu; simp at hu; subst hu; rfl)
        case c3 => unfold maxLen; omega
        case c4 => omega
        case c5 => first | omega | (simp; omega)
        intro v' w4 hown' hgrow _
        rw [tv_snoc] at hown'
        have Q1 : Shut (w4.ownsRow w.heap.size 9 1 v' (done ++ [x]).length (tv (done ++ [x]))) := ⟨by rw [List.length_append, List.length_singleton]; exact hown'⟩
        have Q2 := Shut.mk ((HB1.out.alloc (by omega) (.cells #[.string x] 9)).grown hgrow (by simp; omega) (fun j hj => (hown1.lt j hj).1))
        have hit4 : w4.heap[w.heap.size]? = some (.stringIter p (pos + 1)) := by
          rw [hgrow.block _ (by simp; omega) hne, Below.heap_alloc _ _ _ (by omega)]
          exact hit1
        clear hown' hgrow hown1 HB1
        go_wp2_with fail
        go_roundw
        case rel => exact ⟨pos + 1, pos + 1, _, v', rfl, by go_num, hit4, by omega, Nat.le_refl _, by rw [List.length_append, List.length_singleton]; omega, HR, Q1, Q2⟩
        case measure => rw [hitp, iterPos_of hit4]; omega
      · have hrn : ¬ R = 47 ∧ pos + wd ≤ p.size ∧ 1 ≤ wd ∧ ∀ d, d < wd → bt p (pos + d) ≠ 47 := by
          by_cases hl : bt p pos < 128
          · obtain ⟨e1, rfl⟩ := hlow hl
            refine ⟨by omega, by omega, by omega, fun d hd => ?_⟩
            have : d = 0 := by omega
            subst this; exact hc
          · have h1 := hhigh (by omega)
            have h2 := hfar (by omega)
            refine ⟨by omega, h2.1, h1.2, fun d hd => ?_⟩
            have := h2.2.2 d hd
            omega
        obtain ⟨h1, h2, h3, h4⟩ := hrn
        have hrn' : (R == 47) = false := by rw [beq_eq_false_iff_ne]; exact h1
        have HR := Shut.mk (hrl.out.step h4)
        clear hlow hhigh hfar hrl hc h4
        go_wp2_with fail
        go_roundw
        case rel => exact ⟨pos + wd, g, done, v, rfl, rfl, hit1, h2, by omega, by omega, HR, ⟨hown1⟩, ⟨hbl1⟩⟩
        case measure => rw [hitp, iterPos_of hit1]; omega
    · have hnx : ∀ ty, (Instr.next (.pointer (some ⟨w.heap.size, 0, none⟩)) true ty).run Try.prog wr = _ := fun ty => Lib.run_next_end_at wr w.heap.size p pos ty hit hlt
      have hfin := hrl.out.fin (by omega)
      have hsl := slice_from p g (by omega)
      have hln : (segs (lb p)).length = done.length + 1 := by
        have := congrArg List.length hfin
        rwa [List.length_map, List.length_append, List.length_singleton] at this
      have HL := Shut.mk hln
      have HF := Shut.mk hfin
      have hown1 := hown.out
      generalize p.extract g p.size = x at *
      clear hrl hfin hln hown
      go_wp2_with (at_builtin; refine wpList_append_own _ rfl _ _ 32 rfl w.heap.size 9 i0 (.string ⟨#[]⟩) 1 16 Try.underlying32 hi hz0 hz1 hz2 rfl (by decide) _ _ _ rfl (hown1.alloc _) ⟨wr.heap.size, 0, none⟩ 1 1 [.string x] rfl rfl (cell_one_new _ _ _) ?c2 ?c3 ?c4 ?c5 ?_)
      case c2 => first | rfl | (intro u hu; simp at hu; subst hu; rfl)
      case c3 => unfold maxLen; omega
      case c4 => omega
      case c5 => first | omega | (simp; omega)
      intro v' w4 hown' hgrow _
      rw [tv_snoc] at hown'
      have Q2 := Shut.mk ((hbl.out.alloc hB (.cells #[.string x] 9)).grown hgrow (by simp; omega) (fun j hj => (hown1.lt j hj).1))
      have Q1 := Shut.mk hown'
      clear hown' hgrow hown1
      go_wp2_with fail
      go_ret
      exact ⟨_, rfl, by rw [HL.out, HF.out]; exact Q1.out, Q2.out⟩
end Go.Proofs.Ytcnjjbgilpgceaa
