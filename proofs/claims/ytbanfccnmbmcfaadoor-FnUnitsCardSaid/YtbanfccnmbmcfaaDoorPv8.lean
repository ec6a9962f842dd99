/- Texts of ours, laid one behind the other: LawHu, OpenC. -/
import Derived.Test.YtbanfccnmbmcfaaDoorPv7
import Derived.OpenShut
/- LawHu: The law of units: what is put is got, until it is spoilt or gone; all others stay (written by gen/mklawhu.py). -/
namespace Go.Proofs.YtbanfccnmbmcfaaDoor
set_option maxRecDepth 100000
open Go.RowKit BigFrame
attribute [local go_sem ↓] Go.wp_at_zero Go.wp_at_succ

theorem dec_size (x : Int) (h0 : 0 ≤ x) (h1 : x < 10000) : (⟨(W.decS x.toNat).toArray⟩ : ByteArray).size ≤ 4 := by
  show (W.decS x.toNat).toArray.size ≤ 4
  rw [List.size_toArray]
  unfold W.decS
  split
  · decide
  · exact W.dg_len 4 _ (by omega)
theorem ba_app_size (a b : ByteArray) : (a ++ b).size = a.size + b.size := by simp
set_option maxRecDepth 1000000 in
set_option maxHeartbeats 16000000 in
theorem units_walk (a : Option Addr) (len cap : Nat) (w : World) (hcode : CodeAt w w.heap.size a len) (htab : SumTab w) :
    Calls Tryd.prog 3 #[.slice a len cap] w fun e w' => e = .returned (.bool true) ∧ Below w.heap.size w w' := by
  have hbig : decide ((1048576 : Int) < (len : Int)) = false := by have := hcode.1; simp; omega
  have HC := Shut.mk hcode
  have HT := Shut.mk htab
  clear hcode htab
  go_enter Tryd.func3, Tryd.ntmps3
  go_wp2_with fail
  refine (big_any a len cap _).mono ?_
  rintro e w1 ⟨rfl, hw1⟩
  obtain rfl : w = w1 := hw1.symm
  clear hw1
  rw [hbig]
  clear hbig
  go_upto_region 4 with (go_at_call 9; refine (drawHost_any _ a len cap HC.out).mono ?_; rintro e w1 ⟨id, us, rh, ch, rfl, hgood, hlc, hF, hb⟩; have HG := Shut.mk hgood; have HLC := Shut.mk hlc; have HQ := Shut.mk ((SL.start w).add (s := rwS rh (unS us) _ _) hb hF (rwS.loc _ _ _ _) (Nat.le_refl _) (Nat.le_refl _)); clear hgood hlc hF hb)
  obtain ⟨n, hn⟩ : ∃ n, n = us.length := ⟨_, rfl⟩
  have HN := Shut.mk hn
  rw [← hn]
  rw [← hn] at HLC
  clear hn
  obtain ⟨lh, hlh⟩ : ∃ q, q = w.heap.size := ⟨_, rfl⟩
  obtain ⟨hh, hhh⟩ : ∃ q, q = w1.heap.size := ⟨_, rfl⟩
  have HQ : Shut (SL w w1 [rwS rh (unS us) lh hh]) := ⟨by rw [hlh, hhh]; exact HQ.out⟩
  clear hlh hhh
  obtain ⟨hb, hhb⟩ : ∃ q, q = w1.heap.size := ⟨_, rfl⟩
  refine wp_shade (fun W => SL w W [bxS hb [.int .i64 id, .bool true, .slice rh n ch], rwS rh (unS us) lh hh]) (by rw [hhb]; exact HQ.out.new _ _) ?_
  intro W1 hW
  rw [← hhb]
  have H := Shut.mk hW
  clear hW HQ hhb
  go_upto_region 5 with (go_at_call 10; refine (drawPlaces_any _ a len cap ⟨HC.out.1, fun hp => by obtain ⟨b, off, e, lb, hx⟩ := HC.out.2 hp; exact ⟨b, off, e, Nat.lt_of_lt_of_le lb H.out.bel.size, fun j hj => by obtain ⟨x, h1, h2⟩ := hx j hj; exact ⟨x, (H.out.bel.cell (p := ⟨b, off + j, none⟩) lb).trans h1, h2⟩⟩⟩).mono ?_; rintro e w2 ⟨gp, pc, pl, rfl, hgp, hgl, hpl, hpx, hpc, hbel⟩; have HPX : Shut (pl.length = 12 ∧ ∀ x ∈ pl, 0 ≤ x ∧ x < 10000) := ⟨⟨hpl, hpx⟩⟩; have HQ : Shut (SL w w2 [plS gp pl, bxS hb [.int .i64 id, .bool true, .slice rh n ch], rwS rh (unS us) lh hh]) := ⟨H.out.add (s := plS gp pl) hbel ⟨hgl, hpc⟩ (plS.loc _ _) hgp (by show gp + 1 ≤ _; omega)⟩; clear hgp hgl hpl hpx hpc hbel H)
  have H := HQ
  clear HQ
  have HPB : Shut (∀ j, 0 ≤ pl.getD j 0 ∧ pl.getD j 0 < 10000) := ⟨fun j => by
    by_cases hj : j < pl.length
    · have e : pl.getD j 0 = pl[j] := by simp [List.getD, hj]
      rw [e]
      exact HPX.out.2 _ (List.getElem_mem hj)
    · have e : pl.getD j 0 = 0 := by simp [List.getD, hj]
      rw [e]
      omega⟩
  obtain ⟨x0, hx0⟩ : ∃ q, q = pl.getD 0 0 := ⟨_, rfl⟩
  obtain ⟨x1, hx1⟩ : ∃ q, q = pl.getD 1 0 := ⟨_, rfl⟩
  obtain ⟨x2, hx2⟩ : ∃ q, q = pl.getD 2 0 := ⟨_, rfl⟩
  obtain ⟨x3, hx3⟩ : ∃ q, q = pl.getD 3 0 := ⟨_, rfl⟩
  have b0 := HPB.out 0
  have b1 := HPB.out 1
  have b2 := HPB.out 2
  have b3 := HPB.out 3
  rw [← hx0] at b0
  rw [← hx1] at b1
  rw [← hx2] at b2
  rw [← hx3] at b3
  have HPV : Shut (∀ W, SL w W [plS gp pl, bxS hb [.int .i64 id, .bool true, .slice rh n ch], rwS rh (unS us) lh hh] → W.cell? ⟨gp, 0, none⟩ = some (.int .i64 x0) ∧ W.cell? ⟨gp, 1, none⟩ = some (.int .i64 x1) ∧ W.cell? ⟨gp, 2, none⟩ = some (.int .i64 x2)) := ⟨fun W h => by
    have q := (show (plS gp pl).p W from h.at 0 rfl).2
    rw [hx0, hx1, hx2]
    exact ⟨q 0 (by omega), q 1 (by omega), q 2 (by omega)⟩⟩
  have HP3 : Shut (∀ W, (plS gp pl).p W → W.cell? ⟨gp, 3, none⟩ = some (.int .i64 x3)) := ⟨fun W h => by rw [hx3]; exact h.2 3 (by omega)⟩
  obtain ⟨r0, hr0⟩ : ∃ q, x0.tmod 4 = q := ⟨_, rfl⟩
  obtain ⟨r1, hr1⟩ : ∃ q, x1.tmod 5 = q := ⟨_, rfl⟩
  have c0 : 0 ≤ r0 ∧ r0 ≤ 3 := by rw [← hr0, Int.tmod_eq_emod_of_nonneg b0.1]; omega
  have c1 : 0 ≤ r1 ∧ r1 ≤ 4 := by rw [← hr1, Int.tmod_eq_emod_of_nonneg b1.1]; omega
  have hw0 : IntKind.i64.wrap (1 + r0) = 1 + r0 := IntWalk.i64_in _ ⟨by omega, by omega⟩
  have HDC := Shut.mk (fun W => decimal_nat x2 W b2.1 (by omega))
  have hds := dec_size x2 b2.1 b2.2
  generalize (⟨(W.decS x2.toNat).toArray⟩ : ByteArray) = dt at HDC hds
  clear hx0 hx1 hx2 hx3 HPB HPX b0 b1 b2
  obtain ⟨ut, hut⟩ : ∃ q, q = (⟨#[117, 110, 105, 116]⟩ : ByteArray) ++ dt := ⟨_, rfl⟩
  have hus : ut.size ≤ 8 ∧ 4 ≤ ut.size := by
    rw [hut, ba_app_size]
    have : (⟨#[117, 110, 105, 116]⟩ : ByteArray).size = 4 := rfl
    omega
  have hsz : ¬ (9223372036854775807 < 4 + dt.size) := by omega
  have HSZ := Shut.mk hsz
  have HUT := Shut.mk hut
  obtain ⟨ug, hug⟩ : ∃ q, q = 1 + r0 := ⟨_, rfl⟩
  obtain ⟨ui, hui⟩ : ∃ q, q = r1 := ⟨_, rfl⟩
  have HUS := Shut.mk hus
  have HUG : Shut (1 ≤ ug ∧ ug ≤ 4) := ⟨by omega⟩
  have HUI : Shut (0 ≤ ui ∧ ui ≤ 4) := ⟨by omega⟩
  clear hus hsz hds hut
  have HTX : Shut (∀ x, Later w2.drew x → SL w x [plS gp pl, bxS hb [.int .i64 id, .bool true, .slice rh n ch], rwS rh (unS us) lh hh]) := ⟨fun x hx => H.out.drew.below hx⟩
  have HLE : Shut (∀ x, Later w2.drew x → x.cell? ⟨gp, 0, none⟩ = some (.int .i64 x0) ∧ x.cell? ⟨gp, 1, none⟩ = some (.int .i64 x1) ∧ x.cell? ⟨gp, 2, none⟩ = some (.int .i64 x2)) := ⟨fun x hx => HPV.out x (HTX.out x hx)⟩
  refine wp_region_set (fun j => decide (16 ≤ j)) (by kernel_rfl) ?_
  refine wpD_val (i := 0) (v := ?va0) rfl (by kernel_rfl) (by kernel_rfl) (by kernel_rfl) (by kernel_rfl) (fun _ _ _ h => h) (by rfl) ?hya0 ?resta0
  case hya0 => (intro x hx; obtain ⟨d0, d1, d2⟩ := HLE.out x hx; go_simp; try with_reducible rfl)
  try simp only [Act.put, List.setIfInBounds_toArray, List.set_cons_zero, List.set_cons_succ]
  refine wpD_val (i := 1) (v := ?va1) rfl (by kernel_rfl) (by kernel_rfl) (by kernel_rfl) (by kernel_rfl) (fun _ _ _ h => h) (by rfl) ?hya1 ?resta1
  case hya1 => (intro x hx; obtain ⟨d0, d1, d2⟩ := HLE.out x hx; go_simp; try with_reducible rfl)
  try simp only [Act.put, List.setIfInBounds_toArray, List.set_cons_zero, List.set_cons_succ]
  refine wpD_val (i := 2) (v := ?va2) rfl (by kernel_rfl) (by kernel_rfl) (by kernel_rfl) (by kernel_rfl) (fun _ _ _ h => h) (by rfl) ?hya2 ?resta2
  case hya2 => (intro x hx; obtain ⟨d0, d1, d2⟩ := HLE.out x hx; go_simp; try with_reducible rfl)
  try simp only [Act.put, List.setIfInBounds_toArray, List.set_cons_zero, List.set_cons_succ]
  refine wpD_val (i := 3) (v := ?va3) rfl (by kernel_rfl) (by kernel_rfl) (by kernel_rfl) (by kernel_rfl) (fun _ _ _ h => h) (by rfl) ?hya3 ?resta3
  case hya3 => (intro x hx; obtain ⟨d0, d1, d2⟩ := HLE.out x hx; go_simp; try with_reducible rfl)
  try simp only [Act.put, List.setIfInBounds_toArray, List.set_cons_zero, List.set_cons_succ]
  refine wpD_val (i := 4) (v := ?va4) rfl (by kernel_rfl) (by kernel_rfl) (by kernel_rfl) (by kernel_rfl) (fun _ _ _ h => h) (by rfl) ?hya4 ?resta4
  case hya4 => (intro x hx; obtain ⟨d0, d1, d2⟩ := HLE.out x hx; go_simp; try with_reducible rfl)
  try simp only [Act.put, List.setIfInBounds_toArray, List.set_cons_zero, List.set_cons_succ]
  refine wpD_val (i := 5) (v := ?va5) rfl (by kernel_rfl) (by kernel_rfl) (by kernel_rfl) (by kernel_rfl) (fun _ _ _ h => h) (by rfl) ?hya5 ?resta5
  case hya5 => (intro x hx; obtain ⟨d0, d1, d2⟩ := HLE.out x hx; go_simp; try with_reducible rfl)
  try simp only [Act.put, List.setIfInBounds_toArray, List.set_cons_zero, List.set_cons_succ]
  refine wpD_val (i := 6) (v := ?va6) rfl (by kernel_rfl) (by kernel_rfl) (by kernel_rfl) (by kernel_rfl) (fun _ _ _ h => h) (by rfl) ?hya6 ?resta6
  case hya6 => (intro x hx; obtain ⟨d0, d1, d2⟩ := HLE.out x hx; go_simp; try with_reducible rfl)
  try simp only [Act.put, List.setIfInBounds_toArray, List.set_cons_zero, List.set_cons_succ]
  refine wpD_val (i := 7) (v := ?va7) rfl (by kernel_rfl) (by kernel_rfl) (by kernel_rfl) (by kernel_rfl) (fun _ _ _ h => h) (by rfl) ?hya7 ?resta7
  case hya7 => (intro x hx; obtain ⟨d0, d1, d2⟩ := HLE.out x hx; go_simp; try with_reducible rfl)
  try simp only [Act.put, List.setIfInBounds_toArray, List.set_cons_zero, List.set_cons_succ]
  refine wpD_val (i := 8) (v := ?va8) rfl (by kernel_rfl) (by kernel_rfl) (by kernel_rfl) (by kernel_rfl) (fun _ _ _ h => h) (by rfl) ?hya8 ?resta8
  case hya8 => (intro x hx; obtain ⟨d0, d1, d2⟩ := HLE.out x hx; go_simp; try with_reducible rfl)
  try simp only [Act.put, List.setIfInBounds_toArray, List.set_cons_zero, List.set_cons_succ]
  refine wpD_val (i := 9) (v := ?va9) rfl (by kernel_rfl) (by kernel_rfl) (by kernel_rfl) (by kernel_rfl) (fun _ _ _ h => h) (by rfl) ?hya9 ?resta9
  case hya9 => (intro x hx; obtain ⟨d0, d1, d2⟩ := HLE.out x hx; go_simp; try with_reducible rfl)
  try simp only [Act.put, List.setIfInBounds_toArray, List.set_cons_zero, List.set_cons_succ]
  refine wpD_val (i := 10) (v := ?va10) rfl (by kernel_rfl) (by kernel_rfl) (by kernel_rfl) (by kernel_rfl) (fun _ _ _ h => h) (by rfl) ?hya10 ?resta10
  case hya10 => (intro x hx; obtain ⟨d0, d1, d2⟩ := HLE.out x hx; go_simp; try with_reducible rfl)
  try simp only [Act.put, List.setIfInBounds_toArray, List.set_cons_zero, List.set_cons_succ]
  refine wpD_val (i := 11) (v := ?va11) rfl (by kernel_rfl) (by kernel_rfl) (by kernel_rfl) (by kernel_rfl) (fun _ _ _ h => h) (by rfl) ?hya11 ?resta11
  case hya11 => (intro x hx; obtain ⟨d0, d1, d2⟩ := HLE.out x hx; go_simp; try with_reducible rfl)
  try simp only [Act.put, List.setIfInBounds_toArray, List.set_cons_zero, List.set_cons_succ]
  refine wpD_call (i := 12) (v := .string dt) (f := 11) (args := #[.int .i64 x2]) rfl (by kernel_rfl) (by kernel_rfl) (by kernel_rfl) (by kernel_rfl) (fun _ _ _ h => h) (by rfl) ?hya12 (fun x _ => HDC.out x) ?resta12
  case hya12 => (intro x hx; go_simp; try with_reducible rfl)
  try simp only [Act.put, List.setIfInBounds_toArray, List.set_cons_zero, List.set_cons_succ]
  refine wpD_val (i := 13) (v := ?va13) rfl (by kernel_rfl) (by kernel_rfl) (by kernel_rfl) (by kernel_rfl) (fun _ _ _ h => h) (by rfl) ?hya13 ?resta13
  case hya13 => (intro x hx; obtain ⟨d0, d1, d2⟩ := HLE.out x hx; have qs := HSZ.out; go_simp; try with_reducible rfl)
  try simp only [Act.put, List.setIfInBounds_toArray, List.set_cons_zero, List.set_cons_succ]
  refine wpD_val (i := 14) (v := ?va14) rfl (by kernel_rfl) (by kernel_rfl) (by kernel_rfl) (by kernel_rfl) (fun _ _ _ h => h) (by rfl) ?hya14 ?resta14
  case hya14 => (intro x hx; obtain ⟨d0, d1, d2⟩ := HLE.out x hx; go_simp; try with_reducible rfl)
  try simp only [Act.put, List.setIfInBounds_toArray, List.set_cons_zero, List.set_cons_succ]
  refine wpD_one (i := 15) (by kernel_rfl) rfl (by rfl) (fun x2 hx2 => ⟨.pointer (some ⟨x2.heap.size, 0, none⟩), x2.alloc (.cells #[.int .i64 0, .int .i64 0, .string ⟨#[]⟩, .int .i64 0] 32), by kernel_rfl, (Below.refl _ _).alloc (Nat.le_refl _) _, ?_⟩)
  have HY := Shut.mk ((HTX.out x2 hx2).new #[.int .i64 0, .int .i64 0, .string ⟨#[]⟩, .int .i64 0] 32)
  obtain ⟨ub, hub⟩ : ∃ ub, ub = x2.heap.size := ⟨_, rfl⟩
  rw [← hub] at HY ⊢
  clear hx2 hub HTX HLE H
  try simp only [Act.put, List.setIfInBounds_toArray, List.set_cons_zero, List.set_cons_succ]
  refine wpD_tail (by kernel_rfl) ?_
  intro x5 hx5
  have HY3 := Shut.mk (HY.out.below hx5)
  obtain ⟨q0, qf0⟩ := HY3.out.bx 0 rfl 0 _ rfl
  obtain ⟨q1, qf1⟩ := HY3.out.bx 0 rfl 1 _ rfl
  obtain ⟨q2, qf2⟩ := HY3.out.bx 0 rfl 2 _ rfl
  obtain ⟨q3, qf3⟩ := HY3.out.bx 0 rfl 3 _ rfl
  rw [← HUT.out, ← hug, ← hui]
  refine wpA_step (y := (((x5.setCell ⟨ub, 0, none⟩ (.int .i64 ug)).setCell ⟨ub, 1, none⟩ (.int .i64 ui)).setCell ⟨ub, 2, none⟩ (.string ut)).setCell ⟨ub, 3, none⟩ (.int .i64 0)) (i := 16) (by kernel_rfl) rfl (by rfl) (by go_simp) ?_
  have HZ := Shut.mk ((((HY3.out.put 0 rfl 0 (.int .i64 ug) (by simp)).put 0 rfl 1 (.int .i64 ui) (by simp)).put 0 rfl 2 (.string ut) (by simp)).put 0 rfl 3 (.int .i64 0) (by simp))
  simp only [List.set_cons_zero, List.set_cons_succ] at HZ
  clear q0 qf0 q1 qf1 q2 qf2 q3 qf3 hx5 HY HY3
  simp only [Act.put]
  refine wpA_done (by kernel_rfl) ?_ _
  clear HPV HDC HSZ HUT hug hui hr0 hr1 c0 c1 hw0
  obtain ⟨N, B9, D9, hall⟩ := units_all ⟨id, true, us⟩ ⟨ug, ui, ut, 0⟩ x3 rfl HG.out.1 ⟨by have := HUG.out; show 1 ≤ ug; omega, by have := HUG.out; show ug ≤ 100000; omega⟩ ⟨by have := HUI.out; show 0 ≤ ui; omega, by have := HUI.out; show ui ≤ 5; omega⟩ (by have := HUS.out; show ut.size ≤ 200; omega) (by have := HUS.out; show 0 < ut.size; omega) b3.1
  obtain ⟨nid, nup, nus⟩ := N
  obtain ⟨bid, bup, bus⟩ := B9
  obtain ⟨did, dup, dus⟩ := D9
  have HALL := Shut.mk hall
  have GN : Shut (HGood nid nus 8) := ⟨⟨hall.okN, by have h1 := hall.low; have h2 := HG.out.2; dsimp only at h1; omega⟩⟩
  have GB : Shut (HGood bid bus 8) := ⟨⟨hall.okB, by
    have h1 := spoilX_len ⟨nid, nup, nus⟩ ug ui x3
    rw [hall.spoil] at h1
    have h2 := GN.out.2
    dsimp only at h1
    omega⟩⟩
  have GD : Shut (HGood did dus 8) := ⟨⟨hall.okD, by have h1 := hall.len; have h2 := GN.out.2; dsimp only at h1; omega⟩⟩
  have small : ∀ (id : Int) (us : List UnM), HGood id us 8 → us.length ≤ 1048576 ∧ unSum us ≤ 1048576 := fun id us h => by
    have h1 := (h.fit (by omega)).2.1
    have h2 := h.2
    omega
  have SH := Shut.mk (small id us ⟨HG.out.1, by have := HG.out.2; omega⟩)
  have SN := Shut.mk (small nid nus GN.out)
  have SB := Shut.mk (small bid bus GB.out)
  have SD9 := Shut.mk (small did dus GD.out)
  clear small hall
  have HPU : Shut (∀ (W : World) (b : Option Addr) (c : Nat), Below w.heap.size w W → UnRow W b us → us.length ≤ c → Calls Tryd.prog 12 #[.agg #[.int .i64 id, .bool true, .slice b us.length c], .agg #[.int .i64 ug, .int .i64 ui, .string ut, .int .i64 0]] W fun e w' => ∃ a c, e = .returned (.tuple #[.agg #[.int .i64 nid, .bool nup, .slice a nus.length c], .bool true]) ∧ FRw w' a (unS nus) W.heap.size w'.heap.size ∧ nus.length ≤ c ∧ Below W.heap.size W w') := ⟨fun W b c hb h hc => by
    have k := implPutUnit ⟨id, true, us⟩ b c ⟨ug, ui, ut, 0⟩ W (HT.out.stays hb) h hc SH.out.1 SH.out.2 (by have := HUS.out; show ut.size ≤ _; omega)
    rw [HALL.out.put] at k
    exact k⟩
  have HSP1 : Shut (∀ (W : World) (b : Option Addr) (c : Nat), Below w.heap.size w W → UnRow W b nus → Calls Tryd.prog 14 #[.agg #[.int .i64 nid, .bool nup, .slice b nus.length c], .int .i64 ug, .int .i64 ui, .int .i64 x3] W fun e w' => ∃ a c, e = .returned (.tuple #[.agg #[.int .i64 bid, .bool bup, .slice a bus.length c], .bool true]) ∧ FRw w' a (unS bus) W.heap.size w'.heap.size ∧ bus.length ≤ c ∧ Below W.heap.size W w') := ⟨fun W b c hb h => by
    have k := implSpoil ⟨nid, nup, nus⟩ b c ug ui x3 W (HT.out.stays hb) h SN.out.1 SN.out.2
    rw [HALL.out.spoil] at k
    exact k⟩
  have HSP2 : Shut (∀ (W : World) (b : Option Addr) (c : Nat), Below w.heap.size w W → UnRow W b bus → Calls Tryd.prog 14 #[.agg #[.int .i64 bid, .bool bup, .slice b bus.length c], .int .i64 ug, .int .i64 ui, .int .i64 x3] W fun e w' => ∃ a c, e = .returned (.tuple #[.agg #[.int .i64 bid, .bool bup, .slice a bus.length c], .bool false]) ∧ FRw w' a (unS bus) W.heap.size w'.heap.size ∧ bus.length ≤ c ∧ Below W.heap.size W w') := ⟨fun W b c hb h => by
    have k := implSpoil ⟨bid, bup, bus⟩ b c ug ui x3 W (HT.out.stays hb) h SB.out.1 SB.out.2
    rw [HALL.out.again] at k
    exact k⟩
  have HDR : Shut (∀ (W : World) (b : Option Addr) (c : Nat), UnRow W b nus → Calls Tryd.prog 15 #[.agg #[.int .i64 nid, .bool nup, .slice b nus.length c], .int .i64 ug, .int .i64 ui] W fun e w' => ∃ a c, e = .returned (.tuple #[.agg #[.int .i64 did, .bool dup, .slice a dus.length c], .bool true]) ∧ FRw w' a (unS dus) W.heap.size w'.heap.size ∧ dus.length ≤ c ∧ Below W.heap.size W w') := ⟨fun W b c h => by
    have k := implDropUnit ⟨nid, nup, nus⟩ b c ug ui W h SN.out.1 SN.out.2
    rw [HALL.out.drop] at k
    exact k⟩
  have GET : ∀ (H : HM) (W : World) (b : Option Addr) (c : Nat) (g i : Int), Below w.heap.size w W → UnRow W b H.us → H.us.length ≤ 1048576 ∧ unSum H.us ≤ 1048576 → Calls Tryd.prog 13 #[.agg #[.int .i64 H.id, .bool H.up, .slice b H.us.length c], .int .i64 g, .int .i64 i] W fun e w' => e = .returned (.tuple #[.string (getX H g i).1, .bool (getX H g i).2]) ∧ Below W.heap.size W w' := fun H W b c g i hb h hs => implGetUnit H b c g i W (HT.out.stays hb) h hs.1 hs.2
  have HG1 : Shut (∀ (W : World) (b : Option Addr) (c : Nat), Below w.heap.size w W → UnRow W b nus → Calls Tryd.prog 13 #[.agg #[.int .i64 nid, .bool nup, .slice b nus.length c], .int .i64 ug, .int .i64 ui] W fun e w' => e = .returned (.tuple #[.string ut, .bool true]) ∧ Below W.heap.size W w') := ⟨fun W b c hb h => by
    have k := GET ⟨nid, nup, nus⟩ W b c ug ui hb h SN.out
    rw [HALL.out.got] at k
    exact k⟩
  obtain ⟨t2, ht2⟩ : ∃ t, t = (getX ⟨bid, bup, bus⟩ ug ui).1 := ⟨_, rfl⟩
  have HG2 : Shut (∀ (W : World) (b : Option Addr) (c : Nat), Below w.heap.size w W → UnRow W b bus → Calls Tryd.prog 13 #[.agg #[.int .i64 bid, .bool bup, .slice b bus.length c], .int .i64 ug, .int .i64 ui] W fun e w' => e = .returned (.tuple #[.string t2, .bool false]) ∧ Below W.heap.size W w') := ⟨fun W b c hb h => by
    have k := GET ⟨bid, bup, bus⟩ W b c ug ui hb h SB.out
    rw [← ht2, HALL.out.bad] at k
    exact k⟩
  obtain ⟨t3, ht3⟩ : ∃ t, t = (getX ⟨did, dup, dus⟩ ug ui).1 := ⟨_, rfl⟩
  have HG3 : Shut (∀ (W : World) (b : Option Addr) (c : Nat), Below w.heap.size w W → UnRow W b dus → Calls Tryd.prog 13 #[.agg #[.int .i64 did, .bool dup, .slice b dus.length c], .int .i64 ug, .int .i64 ui] W fun e w' => e = .returned (.tuple #[.string t3, .bool false]) ∧ Below W.heap.size W w') := ⟨fun W b c hb h => by
    have k := GET ⟨did, dup, dus⟩ W b c ug ui hb h SD9.out
    rw [← ht3, HALL.out.none] at k
    exact k⟩
  obtain ⟨t4, ht4⟩ : ∃ t, t = (getX ⟨nid, false, nus⟩ ug ui).1 := ⟨_, rfl⟩
  have HG4 : Shut (∀ (W : World) (b : Option Addr) (c : Nat), Below w.heap.size w W → UnRow W b nus → Calls Tryd.prog 13 #[.agg #[.int .i64 nid, .bool false, .slice b nus.length c], .int .i64 ug, .int .i64 ui] W fun e w' => e = .returned (.tuple #[.string t4, .bool false]) ∧ Below W.heap.size W w') := ⟨fun W b c hb h => by
    have k := GET ⟨nid, false, nus⟩ W b c ug ui hb h SN.out
    rw [← ht4, HALL.out.down] at k
    exact k⟩
  have HGX : Shut (∀ (W : World) (b : Option Addr) (c : Nat) (x : UnM), x ∈ us → unSame x ⟨ug, ui, ut, 0⟩ = false → Below w.heap.size w W → UnRow W b dus → Calls Tryd.prog 13 #[.agg #[.int .i64 did, .bool dup, .slice b dus.length c], .int .i64 x.group, .int .i64 x.index] W fun e w' => e = .returned (.tuple #[.string (getX ⟨id, true, us⟩ x.group x.index).1, .bool (getX ⟨id, true, us⟩ x.group x.index).2]) ∧ Below W.heap.size W w') := ⟨fun W b c x hx hxu hb h => by
    have k := GET ⟨did, dup, dus⟩ W b c x.group x.index hb h SD9.out
    rw [← HALL.out.others x hx hxu] at k
    exact k⟩
  have HGS : Shut (∀ (W : World) (b : Option Addr) (c : Nat) (g i : Int), UnRow W b us → Calls Tryd.prog 17 #[.agg #[.int .i64 id, .bool true, .slice b us.length c], .int .i64 g, .int .i64 i] W fun e w' => e = .returned (.tuple #[.string (getX ⟨id, true, us⟩ g i).1, .bool (getX ⟨id, true, us⟩ g i).2]) ∧ Below W.heap.size W w') := ⟨fun W b c g i h => specGetUnit ⟨id, true, us⟩ b c g i W h SH.out.1 SH.out.2⟩
  have HON : Shut (∀ (W : World) (b : Option Addr) (c : Nat), UnRow W b nus → Calls Tryd.prog 16 #[.agg #[.int .i64 nid, .bool nup, .slice b nus.length c]] W fun e w' => e = .returned (.bool true) ∧ Below W.heap.size W w') := ⟨fun W b c h => by
    have k := implHostOk ⟨nid, nup, nus⟩ b c W h (by have := SN.out.1; show nus.length ≤ _; omega)
    rw [HALL.out.okN] at k
    exact k⟩
  have HOB : Shut (∀ (W : World) (b : Option Addr) (c : Nat), UnRow W b bus → Calls Tryd.prog 16 #[.agg #[.int .i64 bid, .bool bup, .slice b bus.length c]] W fun e w' => e = .returned (.bool true) ∧ Below W.heap.size W w') := ⟨fun W b c h => by
    have k := implHostOk ⟨bid, bup, bus⟩ b c W h (by have := SB.out.1; show bus.length ≤ _; omega)
    rw [HALL.out.okB] at k
    exact k⟩
  have HOD : Shut (∀ (W : World) (b : Option Addr) (c : Nat), UnRow W b dus → Calls Tryd.prog 16 #[.agg #[.int .i64 did, .bool dup, .slice b dus.length c]] W fun e w' => e = .returned (.bool true) ∧ Below W.heap.size W w') := ⟨fun W b c h => by
    have k := implHostOk ⟨did, dup, dus⟩ b c W h (by have := SD9.out.1; show dus.length ≤ _; omega)
    rw [HALL.out.okD] at k
    exact k⟩
  have HST1 : Shut (∀ (W : World), Below w.heap.size w W → Calls Tryd.prog 18 #[.string ut] W fun e w' => e = .returned (.int .i64 (sumN ut)) ∧ w' = W) := ⟨fun W hb => implSum ut W (HT.out.stays hb) (by have := HUS.out; omega)⟩
  have HST2 : Shut (∀ (W : World), Calls Tryd.prog 19 #[.string ut] W fun e w' => e = .returned (.int .i64 (sumN ut)) ∧ w' = W) := ⟨fun W => specSumText ut W (by have := HUS.out; omega)⟩
  have HLEN : Shut (dus.length + 1 = nus.length ∧ nus.length ≤ 8) := ⟨⟨HALL.out.len, GN.out.2⟩⟩
  generalize sumN ut = sn at HST1 HST2
  clear ht2 ht3 ht4 GET HALL GN GB GD SH SN SB SD9
  obtain ⟨nn, hnn⟩ : ∃ q, q = nus.length := ⟨_, rfl⟩
  obtain ⟨bn, hbn⟩ : ∃ q, q = bus.length := ⟨_, rfl⟩
  obtain ⟨dn, hdn⟩ : ∃ q, q = dus.length := ⟨_, rfl⟩
  rw [← HN.out] at HPU HGS
  rw [← hnn] at HPU HSP1 HDR HG1 HG4 HON HLEN
  rw [← hbn] at HSP1 HSP2 HG2 HOB
  rw [← hdn] at HDR HG3 HGX HOD HLEN
  clear hnn hbn hdn
  have H := HZ
  clear HZ
  go_upto_region 6 with fail
  refine wp_shade (fun W => SL w W [bxS ub [.int .i64 ug, .int .i64 ui, .string ut, .int .i64 0], plS gp pl, bxS hb [.int .i64 id, .bool true, .slice rh n ch], rwS rh (unS us) lh hh]) H.out ?_
  intro W6 hW
  clear H
  have H := Shut.mk hW
  clear hW
  have x0 := (H.out.bx 2 rfl 0 _ rfl).1
  have x1 := (H.out.bx 2 rfl 1 _ rfl).1
  have x2 := (H.out.bx 2 rfl 2 _ rfl).1
  have y0 := (H.out.bx 0 rfl 0 _ rfl).1
  have y1 := (H.out.bx 0 rfl 1 _ rfl).1
  have y2 := (H.out.bx 0 rfl 2 _ rfl).1
  have y3 := (H.out.bx 0 rfl 3 _ rfl).1
  go_upto_region 7 with (go_at_call 12; refine (HPU.out _ _ _ H.out.bel (show FRw _ _ _ _ _ from H.out.at 3 rfl).crow HLC.out).mono ?_; rintro e w6 ⟨rn, cn, rfl, hF, hcn, hbel⟩; have HQ := Shut.mk (H.out.add (s := rwS rn (unS nus) _ _) hbel hF (rwS.loc _ _ _ _) (Nat.le_refl _) (Nat.le_refl _)); clear hF hbel H x0 x1 x2 y0 y1 y2 y3)
  generalize W6.heap.size = ln at HQ
  obtain ⟨hn, hhn⟩ : ∃ q, q = w6.heap.size := ⟨_, rfl⟩
  rw [← hhn] at HQ
  clear hhn
  obtain ⟨nb, hnb9⟩ : ∃ q, q = w6.heap.size := ⟨_, rfl⟩
  refine wp_shade (fun W => SL w W [bxS nb [.int .i64 nid, .bool nup, .slice rn nn cn], rwS rn (unS nus) ln hn, bxS ub [.int .i64 ug, .int .i64 ui, .string ut, .int .i64 0], plS gp pl, bxS hb [.int .i64 id, .bool true, .slice rh n ch], rwS rh (unS us) lh hh]) (by rw [hnb9]; exact HQ.out.new _ _) ?_
  intro W7 hW
  rw [← hnb9]
  clear HQ hnb9
  have H := Shut.mk hW
  clear hW
  have x0 := (H.out.bx 0 rfl 0 _ rfl).1
  have x1 := (H.out.bx 0 rfl 1 _ rfl).1
  have x2 := (H.out.bx 0 rfl 2 _ rfl).1
  have y0 := (H.out.bx 2 rfl 0 _ rfl).1
  have y1 := (H.out.bx 2 rfl 1 _ rfl).1
  go_upto_region 8 with (go_at_call 13; refine (HG1.out _ _ _ H.out.bel (show FRw _ _ _ _ _ from H.out.at 1 rfl).crow).mono ?_; rintro e w7 ⟨rfl, hbel⟩; replace H := Shut.mk (H.out.below hbel); clear hbel x0 x1 x2 y0 y1)
  go_cut [10, 11] from 64 to 75 (fun u8 u9 wq => ∃ (b8 : Nat) (a8 : Option Addr) (c8 lo8 hi8 : Nat), u8 = .pointer (some ⟨b8, 0, none⟩) ∧ u9 = .bool true ∧ Shut (SL w wq (bxS b8 [.int .i64 bid, .bool bup, .slice a8 bn c8] :: rwS a8 (unS bus) lo8 hi8 :: [bxS nb [.int .i64 nid, .bool nup, .slice rn nn cn], rwS rn (unS nus) ln hn, bxS ub [.int .i64 ug, .int .i64 ui, .string ut, .int .i64 0], plS gp pl, bxS hb [.int .i64 id, .bool true, .slice rh n ch], rwS rh (unS us) lh hh])) ∧ bn ≤ c8)
  case first =>
    have HTX : Shut (∀ x, Later w7.drew x → SL w x [bxS nb [.int .i64 nid, .bool nup, .slice rn nn cn], rwS rn (unS nus) ln hn, bxS ub [.int .i64 ug, .int .i64 ui, .string ut, .int .i64 0], plS gp pl, bxS hb [.int .i64 id, .bool true, .slice rh n ch], rwS rh (unS us) lh hh]) := ⟨fun x hx => H.out.drew.below hx⟩
    have HLE : Shut (∀ x, Later w7.drew x → x.cell? ⟨nb, 0, none⟩ = some (.int .i64 nid) ∧ x.cell? ⟨nb, 1, none⟩ = some (.bool nup) ∧ x.cell? ⟨nb, 2, none⟩ = some (.slice rn nn cn) ∧ x.cell? ⟨ub, 0, none⟩ = some (.int .i64 ug) ∧ x.cell? ⟨ub, 1, none⟩ = some (.int .i64 ui) ∧ x.cell? ⟨gp, 3, none⟩ = some (.int .i64 x3)) := ⟨fun x hx => ⟨((HTX.out x hx).bx 0 rfl 0 _ rfl).1, ((HTX.out x hx).bx 0 rfl 1 _ rfl).1, ((HTX.out x hx).bx 0 rfl 2 _ rfl).1, ((HTX.out x hx).bx 2 rfl 0 _ rfl).1, ((HTX.out x hx).bx 2 rfl 1 _ rfl).1, HP3.out x ((HTX.out x hx).at 3 rfl)⟩⟩
    refine wp_region_set (fun j => decide (j = 9 ∨ j = 10 ∨ j = 11 ∨ 13 ≤ j)) (by kernel_rfl) ?_
    refine wpD_val (i := 0) (v := ?vs0) rfl (by kernel_rfl) (by kernel_rfl) (by kernel_rfl) (by kernel_rfl) (fun _ _ _ h => h) (by rfl) ?hys0 ?rests0
    case hys0 => (intro x hx; obtain ⟨d0, d1, d2, e0, e1, e3⟩ := HLE.out x hx; go_simp; try with_reducible rfl)
    try simp only [Act.put, List.setIfInBounds_toArray, List.set_cons_zero, List.set_cons_succ]
    refine wpD_val (i := 1) (v := ?vs1) rfl (by kernel_rfl) (by kernel_rfl) (by kernel_rfl) (by kernel_rfl) (fun _ _ _ h => h) (by rfl) ?hys1 ?rests1
    case hys1 => (intro x hx; obtain ⟨d0, d1, d2, e0, e1, e3⟩ := HLE.out x hx; go_simp; try with_reducible rfl)
    try simp only [Act.put, List.setIfInBounds_toArray, List.set_cons_zero, List.set_cons_succ]
    refine wpD_val (i := 2) (v := ?vs2) rfl (by kernel_rfl) (by kernel_rfl) (by kernel_rfl) (by kernel_rfl) (fun _ _ _ h => h) (by rfl) ?hys2 ?rests2
    case hys2 => (intro x hx; obtain ⟨d0, d1, d2, e0, e1, e3⟩ := HLE.out x hx; go_simp; try with_reducible rfl)
    try simp only [Act.put, List.setIfInBounds_toArray, List.set_cons_zero, List.set_cons_succ]
    refine wpD_val (i := 3) (v := ?vs3) rfl (by kernel_rfl) (by kernel_rfl) (by kernel_rfl) (by kernel_rfl) (fun _ _ _ h => h) (by rfl) ?hys3 ?rests3
    case hys3 => (intro x hx; obtain ⟨d0, d1, d2, e0, e1, e3⟩ := HLE.out x hx; go_simp; try with_reducible rfl)
    try simp only [Act.put, List.setIfInBounds_toArray, List.set_cons_zero, List.set_cons_succ]
    refine wpD_val (i := 4) (v := ?vs4) rfl (by kernel_rfl) (by kernel_rfl) (by kernel_rfl) (by kernel_rfl) (fun _ _ _ h => h) (by rfl) ?hys4 ?rests4
    case hys4 => (intro x hx; obtain ⟨d0, d1, d2, e0, e1, e3⟩ := HLE.out x hx; go_simp; try with_reducible rfl)
    try simp only [Act.put, List.setIfInBounds_toArray, List.set_cons_zero, List.set_cons_succ]
    refine wpD_val (i := 5) (v := ?vs5) rfl (by kernel_rfl) (by kernel_rfl) (by kernel_rfl) (by kernel_rfl) (fun _ _ _ h => h) (by rfl) ?hys5 ?rests5
    case hys5 => (intro x hx; obtain ⟨d0, d1, d2, e0, e1, e3⟩ := HLE.out x hx; go_simp; try with_reducible rfl)
    try simp only [Act.put, List.setIfInBounds_toArray, List.set_cons_zero, List.set_cons_succ]
    refine wpD_val (i := 6) (v := ?vs6) rfl (by kernel_rfl) (by kernel_rfl) (by kernel_rfl) (by kernel_rfl) (fun _ _ _ h => h) (by rfl) ?hys6 ?rests6
    case hys6 => (intro x hx; obtain ⟨d0, d1, d2, e0, e1, e3⟩ := HLE.out x hx; go_simp; try with_reducible rfl)
    try simp only [Act.put, List.setIfInBounds_toArray, List.set_cons_zero, List.set_cons_succ]
    refine wpD_val (i := 7) (v := ?vs7) rfl (by kernel_rfl) (by kernel_rfl) (by kernel_rfl) (by kernel_rfl) (fun _ _ _ h => h) (by rfl) ?hys7 ?rests7
    case hys7 => (intro x hx; obtain ⟨d0, d1, d2, e0, e1, e3⟩ := HLE.out x hx; go_simp; try with_reducible rfl)
    try simp only [Act.put, List.setIfInBounds_toArray, List.set_cons_zero, List.set_cons_succ]
    refine wpD_callbox (f := 14) (args := #[.agg #[.int .i64 nid, .bool nup, .slice rn nn cn], .int .i64 ug, .int .i64 ui, .int .i64 x3]) (C := #[.int .i64 0, .bool false, .slice none 0 0]) (t := 26) (i := 8) (j := 12) (by kernel_rfl) rfl rfl (by rfl) (by rfl) (fun x hx => by go_simp) (fun x hx => by kernel_rfl) (fun x hx => (HSP1.out _ _ _ (HTX.out x hx).bel (show FRw _ _ _ _ _ from (HTX.out x hx).at 1 rfl).crow).mono ?_) (fun x hx => ?_)
    · rintro e y2 ⟨a8, c8, rfl, hF, hc8, hb2⟩
      refine ⟨_, rfl, hb2, ?_⟩
      have HY := Shut.mk ((HTX.out x hx).add (s := rwS a8 (unS bus) _ _) hb2 hF (rwS.loc _ _ _ _) (Nat.le_refl _) (Nat.le_refl _))
      clear hF hb2
      try simp only [Act.put, List.setIfInBounds_toArray, List.set_cons_zero, List.set_cons_succ]
      clear hx
      refine wpD_pure (i := 9) (v := ?vsA9) rfl (by kernel_rfl) (by kernel_rfl) (by kernel_rfl) (by kernel_rfl) (fun _ _ _ h => h) (by rfl) ?hysA9 ?restsA9
      case hysA9 => (intro x; go_simp; try with_reducible rfl)
      try simp only [Act.put, List.setIfInBounds_toArray, List.set_cons_zero, List.set_cons_succ]
      refine wpD_pure (i := 10) (v := ?vsA10) rfl (by kernel_rfl) (by kernel_rfl) (by kernel_rfl) (by kernel_rfl) (fun _ _ _ h => h) (by rfl) ?hysA10 ?restsA10
      case hysA10 => (intro x; go_simp; try with_reducible rfl)
      try simp only [Act.put, List.setIfInBounds_toArray, List.set_cons_zero, List.set_cons_succ]
      refine wpD_pure (i := 11) (v := ?vsA11) rfl (by kernel_rfl) (by kernel_rfl) (by kernel_rfl) (by kernel_rfl) (fun _ _ _ h => h) (by rfl) ?hysA11 ?restsA11
      case hysA11 => (intro x; go_simp; try with_reducible rfl)
      try simp only [Act.put, List.setIfInBounds_toArray, List.set_cons_zero, List.set_cons_succ]
      refine wpD_one (i := 12) (by kernel_rfl) rfl (by rfl) (fun x2 hx2 => ⟨.pointer (some ⟨x2.heap.size, 0, none⟩), x2.alloc (.cells #[.int .i64 0, .bool false, .slice none 0 0] 26), by kernel_rfl, (Below.refl _ _).alloc (Nat.le_refl _) _, ?_⟩)
      have HY2 := Shut.mk ((HY.out.below hx2).new #[.int .i64 0, .bool false, .slice none 0 0] 26)
      obtain ⟨zb, hzb⟩ : ∃ zb, zb = x2.heap.size := ⟨_, rfl⟩
      rw [← hzb] at HY2 ⊢
      clear hx2 hzb HY
      try simp only [Act.put, List.setIfInBounds_toArray, List.set_cons_zero, List.set_cons_succ]
      refine wpD_tail (by kernel_rfl) ?_
      intro x5 hx5
      have HY3 := Shut.mk (HY2.out.below hx5)
      obtain ⟨q0, qf0⟩ := HY3.out.bx 0 rfl 0 _ rfl
      obtain ⟨q1, qf1⟩ := HY3.out.bx 0 rfl 1 _ rfl
      obtain ⟨q2, qf2⟩ := HY3.out.bx 0 rfl 2 _ rfl
      refine wpA_step (y := ((x5.setCell ⟨zb, 0, none⟩ (.int .i64 bid)).setCell ⟨zb, 1, none⟩ (.bool bup)).setCell ⟨zb, 2, none⟩ (.slice a8 bn c8)) (i := 13) (by kernel_rfl) rfl (by rfl) (by go_simp) ?_
      have HZ := Shut.mk (((HY3.out.put 0 rfl 0 (.int .i64 bid) (by simp)).put 0 rfl 1 (.bool bup) (by simp)).put 0 rfl 2 (.slice a8 bn c8) (by simp))
      clear q0 qf0 q1 qf1 q2 qf2 hx5 HY2 HY3
      simp only [Act.put]
      refine wpA_val (i := 14) (v := .bool true) rfl (by kernel_rfl) (by kernel_rfl) (by kernel_rfl) (fun _ _ _ h => h) (by rfl) (fun x => by go_simp) ?_
      try simp only [Act.put, List.setIfInBounds_toArray, List.set_cons_zero, List.set_cons_succ]
      refine wpA_done (by kernel_rfl) ?_ _
      go_wp2_with fail
      go_meet
      case rel => exact ⟨zb, a8, c8, _, _, rfl, rfl, ⟨HZ.out⟩, hc8⟩
    · have HW := Shut.mk ((HTX.out x hx).new #[.int .i64 0, .bool false, .slice none 0 0] 26)
      obtain ⟨zb, hzb⟩ : ∃ zb, zb = x.heap.size := ⟨_, rfl⟩
      rw [← hzb] at HW ⊢
      generalize x.alloc (.cells #[.int .i64 0, .bool false, .slice none 0 0] 26) = xx at HW ⊢
      clear hzb hx
      try simp only [Act.put, List.setIfInBounds_toArray, List.set_cons_zero, List.set_cons_succ]
      refine wpD_onecall (f := 14) (args := #[.agg #[.int .i64 nid, .bool nup, .slice rn nn cn], .int .i64 ug, .int .i64 ui, .int .i64 x3]) (i := 8) (by kernel_rfl) rfl (by rfl) (fun x hx => by go_simp) (fun x hx => (HSP1.out _ _ _ (HW.out.below hx).bel (show FRw _ _ _ _ _ from (HW.out.below hx).at 2 rfl).crow).mono ?_)
      rintro e y2 ⟨a8, c8, rfl, hF, hc8, hb2⟩
      refine ⟨_, rfl, hb2, ?_⟩
      have HY := Shut.mk ((HW.out.below hx).add (s := rwS a8 (unS bus) _ _) hb2 hF (rwS.loc _ _ _ _) (Nat.le_refl _) (Nat.le_refl _))
      clear hF hb2
      try simp only [Act.put, List.setIfInBounds_toArray, List.set_cons_zero, List.set_cons_succ]
      clear hx HW
      refine wpD_pure (i := 9) (v := ?vsB9) rfl (by kernel_rfl) (by kernel_rfl) (by kernel_rfl) (by kernel_rfl) (fun _ _ _ h => h) (by rfl) ?hysB9 ?restsB9
      case hysB9 => (intro x; go_simp; try with_reducible rfl)
      try simp only [Act.put, List.setIfInBounds_toArray, List.set_cons_zero, List.set_cons_succ]
      refine wpD_pure (i := 10) (v := ?vsB10) rfl (by kernel_rfl) (by kernel_rfl) (by kernel_rfl) (by kernel_rfl) (fun _ _ _ h => h) (by rfl) ?hysB10 ?restsB10
      case hysB10 => (intro x; go_simp; try with_reducible rfl)
      try simp only [Act.put, List.setIfInBounds_toArray, List.set_cons_zero, List.set_cons_succ]
      refine wpD_pure (i := 11) (v := ?vsB11) rfl (by kernel_rfl) (by kernel_rfl) (by kernel_rfl) (by kernel_rfl) (fun _ _ _ h => h) (by rfl) ?hysB11 ?restsB11
      case hysB11 => (intro x; go_simp; try with_reducible rfl)
      try simp only [Act.put, List.setIfInBounds_toArray, List.set_cons_zero, List.set_cons_succ]
      have HY2 := HY
      clear HY
      refine wpD_tail (by kernel_rfl) ?_
      intro x5 hx5
      have HY3 := Shut.mk (HY2.out.below hx5)
      obtain ⟨q0, qf0⟩ := HY3.out.bx 1 rfl 0 _ rfl
      obtain ⟨q1, qf1⟩ := HY3.out.bx 1 rfl 1 _ rfl
      obtain ⟨q2, qf2⟩ := HY3.out.bx 1 rfl 2 _ rfl
      refine wpA_step (y := ((x5.setCell ⟨zb, 0, none⟩ (.int .i64 bid)).setCell ⟨zb, 1, none⟩ (.bool bup)).setCell ⟨zb, 2, none⟩ (.slice a8 bn c8)) (i := 13) (by kernel_rfl) rfl (by rfl) (by go_simp) ?_
      have HZ := Shut.mk (((HY3.out.put 1 rfl 0 (.int .i64 bid) (by simp)).put 1 rfl 1 (.bool bup) (by simp)).put 1 rfl 2 (.slice a8 bn c8) (by simp))
      clear q0 qf0 q1 qf1 q2 qf2 hx5 HY2 HY3
      simp only [Act.put]
      refine wpA_val (i := 14) (v := .bool true) rfl (by kernel_rfl) (by kernel_rfl) (by kernel_rfl) (fun _ _ _ h => h) (by rfl) (fun x => by go_simp) ?_
      try simp only [Act.put, List.setIfInBounds_toArray, List.set_cons_zero, List.set_cons_succ]
      refine wpA_done (by kernel_rfl) ?_ _
      go_wp2_with fail
      go_meet
      case rel => exact ⟨zb, a8, c8, _, _, rfl, rfl, ⟨HZ.out.swap⟩, hc8⟩
  case rest =>
    obtain ⟨bb, rb, cb, lb, hb9, rfl, rfl, H9, hcb⟩ := hcut
    clear H
    have H := H9
    clear H9
    have x0 := (H.out.bx 0 rfl 0 _ rfl).1
    have x1 := (H.out.bx 0 rfl 1 _ rfl).1
    have x2 := (H.out.bx 0 rfl 2 _ rfl).1
    have y0 := (H.out.bx 4 rfl 0 _ rfl).1
    have y1 := (H.out.bx 4 rfl 1 _ rfl).1
    go_upto_region 10 with (go_at_call 13; refine (HG2.out _ _ _ H.out.bel (show FRw _ _ _ _ _ from H.out.at 1 rfl).crow).mono ?_; rintro e w9 ⟨rfl, hbel⟩; replace H := Shut.mk (H.out.below hbel); clear hbel x0 x1 x2 y0 y1)
    go_cut [14, 15] from 85 to 96 (fun u8 u9 wq => ∃ (b8 : Nat) (a8 : Option Addr) (c8 lo8 hi8 : Nat), u8 = .pointer (some ⟨b8, 0, none⟩) ∧ u9 = .bool false ∧ Shut (SL w wq (bxS b8 [.int .i64 bid, .bool bup, .slice a8 bn c8] :: rwS a8 (unS bus) lo8 hi8 :: [bxS bb [.int .i64 bid, .bool bup, .slice rb bn cb], rwS rb (unS bus) lb hb9, bxS nb [.int .i64 nid, .bool nup, .slice rn nn cn], rwS rn (unS nus) ln hn, bxS ub [.int .i64 ug, .int .i64 ui, .string ut, .int .i64 0], plS gp pl, bxS hb [.int .i64 id, .bool true, .slice rh n ch], rwS rh (unS us) lh hh])) ∧ bn ≤ c8)
    case first =>
      have HTX : Shut (∀ x, Later w9.drew x → SL w x [bxS bb [.int .i64 bid, .bool bup, .slice rb bn cb], rwS rb (unS bus) lb hb9, bxS nb [.int .i64 nid, .bool nup, .slice rn nn cn], rwS rn (unS nus) ln hn, bxS ub [.int .i64 ug, .int .i64 ui, .string ut, .int .i64 0], plS gp pl, bxS hb [.int .i64 id, .bool true, .slice rh n ch], rwS rh (unS us) lh hh]) := ⟨fun x hx => H.out.drew.below hx⟩
      have HLE : Shut (∀ x, Later w9.drew x → x.cell? ⟨bb, 0, none⟩ = some (.int .i64 bid) ∧ x.cell? ⟨bb, 1, none⟩ = some (.bool bup) ∧ x.cell? ⟨bb, 2, none⟩ = some (.slice rb bn cb) ∧ x.cell? ⟨ub, 0, none⟩ = some (.int .i64 ug) ∧ x.cell? ⟨ub, 1, none⟩ = some (.int .i64 ui) ∧ x.cell? ⟨gp, 3, none⟩ = some (.int .i64 x3)) := ⟨fun x hx => ⟨((HTX.out x hx).bx 0 rfl 0 _ rfl).1, ((HTX.out x hx).bx 0 rfl 1 _ rfl).1, ((HTX.out x hx).bx 0 rfl 2 _ rfl).1, ((HTX.out x hx).bx 4 rfl 0 _ rfl).1, ((HTX.out x hx).bx 4 rfl 1 _ rfl).1, HP3.out x ((HTX.out x hx).at 5 rfl)⟩⟩
      refine wp_region_set (fun j => decide (j = 9 ∨ j = 10 ∨ j = 11 ∨ 13 ≤ j)) (by kernel_rfl) ?_
      refine wpD_val (i := 0) (v := ?vr0) rfl (by kernel_rfl) (by kernel_rfl) (by kernel_rfl) (by kernel_rfl) (fun _ _ _ h => h) (by rfl) ?hyr0 ?restr0
      case hyr0 => (intro x hx; obtain ⟨d0, d1, d2, e0, e1, e3⟩ := HLE.out x hx; go_simp; try with_reducible rfl)
      try simp only [Act.put, List.setIfInBounds_toArray, List.set_cons_zero, List.set_cons_succ]
      refine wpD_val (i := 1) (v := ?vr1) rfl (by kernel_rfl) (by kernel_rfl) (by kernel_rfl) (by kernel_rfl) (fun _ _ _ h => h) (by rfl) ?hyr1 ?restr1
      case hyr1 => (intro x hx; obtain ⟨d0, d1, d2, e0, e1, e3⟩ := HLE.out x hx; go_simp; try with_reducible rfl)
      try simp only [Act.put, List.setIfInBounds_toArray, List.set_cons_zero, List.set_cons_succ]
      refine wpD_val (i := 2) (v := ?vr2) rfl (by kernel_rfl) (by kernel_rfl) (by kernel_rfl) (by kernel_rfl) (fun _ _ _ h => h) (by rfl) ?hyr2 ?restr2
      case hyr2 => (intro x hx; obtain ⟨d0, d1, d2, e0, e1, e3⟩ := HLE.out x hx; go_simp; try with_reducible rfl)
      try simp only [Act.put, List.setIfInBounds_toArray, List.set_cons_zero, List.set_cons_succ]
      refine wpD_val (i := 3) (v := ?vr3) rfl (by kernel_rfl) (by kernel_rfl) (by kernel_rfl) (by kernel_rfl) (fun _ _ _ h => h) (by rfl) ?hyr3 ?restr3
      case hyr3 => (intro x hx; obtain ⟨d0, d1, d2, e0, e1, e3⟩ := HLE.out x hx; go_simp; try with_reducible rfl)
      try simp only [Act.put, List.setIfInBounds_toArray, List.set_cons_zero, List.set_cons_succ]
      refine wpD_val (i := 4) (v := ?vr4) rfl (by kernel_rfl) (by kernel_rfl) (by kernel_rfl) (by kernel_rfl) (fun _ _ _ h => h) (by rfl) ?hyr4 ?restr4
      case hyr4 => (intro x hx; obtain ⟨d0, d1, d2, e0, e1, e3⟩ := HLE.out x hx; go_simp; try with_reducible rfl)
      try simp only [Act.put, List.setIfInBounds_toArray, List.set_cons_zero, List.set_cons_succ]
      refine wpD_val (i := 5) (v := ?vr5) rfl (by kernel_rfl) (by kernel_rfl) (by kernel_rfl) (by kernel_rfl) (fun _ _ _ h => h) (by rfl) ?hyr5 ?restr5
      case hyr5 => (intro x hx; obtain ⟨d0, d1, d2, e0, e1, e3⟩ := HLE.out x hx; go_simp; try with_reducible rfl)
      try simp only [Act.put, List.setIfInBounds_toArray, List.set_cons_zero, List.set_cons_succ]
      refine wpD_val (i := 6) (v := ?vr6) rfl (by kernel_rfl) (by kernel_rfl) (by kernel_rfl) (by kernel_rfl) (fun _ _ _ h => h) (by rfl) ?hyr6 ?restr6
      case hyr6 => (intro x hx; obtain ⟨d0, d1, d2, e0, e1, e3⟩ := HLE.out x hx; go_simp; try with_reducible rfl)
      try simp only [Act.put, List.setIfInBounds_toArray, List.set_cons_zero, List.set_cons_succ]
      refine wpD_val (i := 7) (v := ?vr7) rfl (by kernel_rfl) (by kernel_rfl) (by kernel_rfl) (by kernel_rfl) (fun _ _ _ h => h) (by rfl) ?hyr7 ?restr7
      case hyr7 => (intro x hx; obtain ⟨d0, d1, d2, e0, e1, e3⟩ := HLE.out x hx; go_simp; try with_reducible rfl)
      try simp only [Act.put, List.setIfInBounds_toArray, List.set_cons_zero, List.set_cons_succ]
      refine wpD_callbox (f := 14) (args := #[.agg #[.int .i64 bid, .bool bup, .slice rb bn cb], .int .i64 ug, .int .i64 ui, .int .i64 x3]) (C := #[.int .i64 0, .bool false, .slice none 0 0]) (t := 26) (i := 8) (j := 12) (by kernel_rfl) rfl rfl (by rfl) (by rfl) (fun x hx => by go_simp) (fun x hx => by kernel_rfl) (fun x hx => (HSP2.out _ _ _ (HTX.out x hx).bel (show FRw _ _ _ _ _ from (HTX.out x hx).at 1 rfl).crow).mono ?_) (fun x hx => ?_)
      · rintro e y2 ⟨a8, c8, rfl, hF, hc8, hb2⟩
        refine ⟨_, rfl, hb2, ?_⟩
        have HY := Shut.mk ((HTX.out x hx).add (s := rwS a8 (unS bus) _ _) hb2 hF (rwS.loc _ _ _ _) (Nat.le_refl _) (Nat.le_refl _))
        clear hF hb2
        try simp only [Act.put, List.setIfInBounds_toArray, List.set_cons_zero, List.set_cons_succ]
        clear hx
        refine wpD_pure (i := 9) (v := ?vrA9) rfl (by kernel_rfl) (by kernel_rfl) (by kernel_rfl) (by kernel_rfl) (fun _ _ _ h => h) (by rfl) ?hyrA9 ?restrA9
        case hyrA9 => (intro x; go_simp; try with_reducible rfl)
        try simp only [Act.put, List.setIfInBounds_toArray, List.set_cons_zero, List.set_cons_succ]
        refine wpD_pure (i := 10) (v := ?vrA10) rfl (by kernel_rfl) (by kernel_rfl) (by kernel_rfl) (by kernel_rfl) (fun _ _ _ h => h) (by rfl) ?hyrA10 ?restrA10
        case hyrA10 => (intro x; go_simp; try with_reducible rfl)
        try simp only [Act.put, List.setIfInBounds_toArray, List.set_cons_zero, List.set_cons_succ]
        refine wpD_pure (i := 11) (v := ?vrA11) rfl (by kernel_rfl) (by kernel_rfl) (by kernel_rfl) (by kernel_rfl) (fun _ _ _ h => h) (by rfl) ?hyrA11 ?restrA11
        case hyrA11 => (intro x; go_simp; try with_reducible rfl)
        try simp only [Act.put, List.setIfInBounds_toArray, List.set_cons_zero, List.set_cons_succ]
        refine wpD_one (i := 12) (by kernel_rfl) rfl (by rfl) (fun x2 hx2 => ⟨.pointer (some ⟨x2.heap.size, 0, none⟩), x2.alloc (.cells #[.int .i64 0, .bool false, .slice none 0 0] 26), by kernel_rfl, (Below.refl _ _).alloc (Nat.le_refl _) _, ?_⟩)
        have HY2 := Shut.mk ((HY.out.below hx2).new #[.int .i64 0, .bool false, .slice none 0 0] 26)
        obtain ⟨zb, hzb⟩ : ∃ zb, zb = x2.heap.size := ⟨_, rfl⟩
        rw [← hzb] at HY2 ⊢
        clear hx2 hzb HY
        try simp only [Act.put, List.setIfInBounds_toArray, List.set_cons_zero, List.set_cons_succ]
        refine wpD_tail (by kernel_rfl) ?_
        intro x5 hx5
        have HY3 := Shut.mk (HY2.out.below hx5)
        obtain ⟨q0, qf0⟩ := HY3.out.bx 0 rfl 0 _ rfl
        obtain ⟨q1, qf1⟩ := HY3.out.bx 0 rfl 1 _ rfl
        obtain ⟨q2, qf2⟩ := HY3.out.bx 0 rfl 2 _ rfl
        refine wpA_step (y := ((x5.setCell ⟨zb, 0, none⟩ (.int .i64 bid)).setCell ⟨zb, 1, none⟩ (.bool bup)).setCell ⟨zb, 2, none⟩ (.slice a8 bn c8)) (i := 13) (by kernel_rfl) rfl (by rfl) (by go_simp) ?_
        have HZ := Shut.mk (((HY3.out.put 0 rfl 0 (.int .i64 bid) (by simp)).put 0 rfl 1 (.bool bup) (by simp)).put 0 rfl 2 (.slice a8 bn c8) (by simp))
        clear q0 qf0 q1 qf1 q2 qf2 hx5 HY2 HY3
        simp only [Act.put]
        refine wpA_val (i := 14) (v := .bool false) rfl (by kernel_rfl) (by kernel_rfl) (by kernel_rfl) (fun _ _ _ h => h) (by rfl) (fun x => by go_simp) ?_
        try simp only [Act.put, List.setIfInBounds_toArray, List.set_cons_zero, List.set_cons_succ]
        refine wpA_done (by kernel_rfl) ?_ _
        go_wp2_with fail
        go_meet
        case rel => exact ⟨zb, a8, c8, _, _, rfl, rfl, ⟨HZ.out⟩, hc8⟩
      · have HW := Shut.mk ((HTX.out x hx).new #[.int .i64 0, .bool false, .slice none 0 0] 26)
        obtain ⟨zb, hzb⟩ : ∃ zb, zb = x.heap.size := ⟨_, rfl⟩
        rw [← hzb] at HW ⊢
        generalize x.alloc (.cells #[.int .i64 0, .bool false, .slice none 0 0] 26) = xx at HW ⊢
        clear hzb hx
        try simp only [Act.put, List.setIfInBounds_toArray, List.set_cons_zero, List.set_cons_succ]
        refine wpD_onecall (f := 14) (args := #[.agg #[.int .i64 bid, .bool bup, .slice rb bn cb], .int .i64 ug, .int .i64 ui, .int .i64 x3]) (i := 8) (by kernel_rfl) rfl (by rfl) (fun x hx => by go_simp) (fun x hx => (HSP2.out _ _ _ (HW.out.below hx).bel (show FRw _ _ _ _ _ from (HW.out.below hx).at 2 rfl).crow).mono ?_)
        rintro e y2 ⟨a8, c8, rfl, hF, hc8, hb2⟩
        refine ⟨_, rfl, hb2, ?_⟩
        have HY := Shut.mk ((HW.out.below hx).add (s := rwS a8 (unS bus) _ _) hb2 hF (rwS.loc _ _ _ _) (Nat.le_refl _) (Nat.le_refl _))
        clear hF hb2
        try simp only [Act.put, List.setIfInBounds_toArray, List.set_cons_zero, List.set_cons_succ]
        clear hx HW
        refine wpD_pure (i := 9) (v := ?vrB9) rfl (by kernel_rfl) (by kernel_rfl) (by kernel_rfl) (by kernel_rfl) (fun _ _ _ h => h) (by rfl) ?hyrB9 ?restrB9
        case hyrB9 => (intro x; go_simp; try with_reducible rfl)
        try simp only [Act.put, List.setIfInBounds_toArray, List.set_cons_zero, List.set_cons_succ]
        refine wpD_pure (i := 10) (v := ?vrB10) rfl (by kernel_rfl) (by kernel_rfl) (by kernel_rfl) (by kernel_rfl) (fun _ _ _ h => h) (by rfl) ?hyrB10 ?restrB10
        case hyrB10 => (intro x; go_simp; try with_reducible rfl)
        try simp only [Act.put, List.setIfInBounds_toArray, List.set_cons_zero, List.set_cons_succ]
        refine wpD_pure (i := 11) (v := ?vrB11) rfl (by kernel_rfl) (by kernel_rfl) (by kernel_rfl) (by kernel_rfl) (fun _ _ _ h => h) (by rfl) ?hyrB11 ?restrB11
        case hyrB11 => (intro x; go_simp; try with_reducible rfl)
        try simp only [Act.put, List.setIfInBounds_toArray, List.set_cons_zero, List.set_cons_succ]
        have HY2 := HY
        clear HY
        refine wpD_tail (by kernel_rfl) ?_
        intro x5 hx5
        have HY3 := Shut.mk (HY2.out.below hx5)
        obtain ⟨q0, qf0⟩ := HY3.out.bx 1 rfl 0 _ rfl
        obtain ⟨q1, qf1⟩ := HY3.out.bx 1 rfl 1 _ rfl
        obtain ⟨q2, qf2⟩ := HY3.out.bx 1 rfl 2 _ rfl
        refine wpA_step (y := ((x5.setCell ⟨zb, 0, none⟩ (.int .i64 bid)).setCell ⟨zb, 1, none⟩ (.bool bup)).setCell ⟨zb, 2, none⟩ (.slice a8 bn c8)) (i := 13) (by kernel_rfl) rfl (by rfl) (by go_simp) ?_
        have HZ := Shut.mk (((HY3.out.put 1 rfl 0 (.int .i64 bid) (by simp)).put 1 rfl 1 (.bool bup) (by simp)).put 1 rfl 2 (.slice a8 bn c8) (by simp))
        clear q0 qf0 q1 qf1 q2 qf2 hx5 HY2 HY3
        simp only [Act.put]
        refine wpA_val (i := 14) (v := .bool false) rfl (by kernel_rfl) (by kernel_rfl) (by kernel_rfl) (fun _ _ _ h => h) (by rfl) (fun x => by go_simp) ?_
        try simp only [Act.put, List.setIfInBounds_toArray, List.set_cons_zero, List.set_cons_succ]
        refine wpA_done (by kernel_rfl) ?_ _
        go_wp2_with fail
        go_meet
        case rel => exact ⟨zb, a8, c8, _, _, rfl, rfl, ⟨HZ.out.swap⟩, hc8⟩
    case rest =>
      obtain ⟨ab, ra, ca, la, ha, rfl, rfl, H9, hca⟩ := hcut
      clear H
      have H := H9
      clear H9
      have x0 := (H.out.bx 4 rfl 0 _ rfl).1
      have x1 := (H.out.bx 4 rfl 1 _ rfl).1
      have x2 := (H.out.bx 4 rfl 2 _ rfl).1
      have y0 := (H.out.bx 6 rfl 0 _ rfl).1
      have y1 := (H.out.bx 6 rfl 1 _ rfl).1
      go_upto_region 12 with (go_at_call 15; refine (HDR.out _ _ _ (show FRw _ _ _ _ _ from H.out.at 5 rfl).crow).mono ?_; rintro e w11 ⟨rd, cd, rfl, hF, hcd, hbel⟩; have HQ := Shut.mk (H.out.add (s := rwS rd (unS dus) _ _) hbel hF (rwS.loc _ _ _ _) (Nat.le_refl _) (Nat.le_refl _)); clear hF hbel H x0 x1 x2 y0 y1)
      obtain ⟨ld, hld⟩ : ∃ q, q = wc.heap.size := ⟨_, rfl⟩
      rw [← hld] at HQ
      clear hld
      obtain ⟨hd9, hhd⟩ : ∃ q, q = w11.heap.size := ⟨_, rfl⟩
      rw [← hhd] at HQ
      clear hhd
      obtain ⟨db, hdb9⟩ : ∃ q, q = w11.heap.size := ⟨_, rfl⟩
      refine wp_shade (fun W => SL w W [bxS db [.int .i64 did, .bool dup, .slice rd dn cd], rwS rd (unS dus) ld hd9, bxS ab [.int .i64 bid, .bool bup, .slice ra bn ca], rwS ra (unS bus) la ha, bxS bb [.int .i64 bid, .bool bup, .slice rb bn cb], rwS rb (unS bus) lb hb9, bxS nb [.int .i64 nid, .bool nup, .slice rn nn cn], rwS rn (unS nus) ln hn, bxS ub [.int .i64 ug, .int .i64 ui, .string ut, .int .i64 0], plS gp pl, bxS hb [.int .i64 id, .bool true, .slice rh n ch], rwS rh (unS us) lh hh]) (by rw [hdb9]; exact HQ.out.new _ _) ?_
      intro W12 hW
      rw [← hdb9]
      clear HQ hdb9
      have H := Shut.mk hW
      clear hW
      have x0 := (H.out.bx 0 rfl 0 _ rfl).1
      have x1 := (H.out.bx 0 rfl 1 _ rfl).1
      have x2 := (H.out.bx 0 rfl 2 _ rfl).1
      have y0 := (H.out.bx 8 rfl 0 _ rfl).1
      have y1 := (H.out.bx 8 rfl 1 _ rfl).1
      go_upto_region 13 with (go_at_call 13; refine (HG3.out _ _ _ H.out.bel (show FRw _ _ _ _ _ from H.out.at 1 rfl).crow).mono ?_; rintro e w12 ⟨rfl, hbel⟩; replace H := Shut.mk (H.out.below hbel); clear hbel x0 x1 x2 y0 y1)
      have m0 := (H.out.bx 8 rfl 2 _ rfl).1
      have x0 := (H.out.bx 6 rfl 0 _ rfl).1
      have x1 := (H.out.bx 6 rfl 1 _ rfl).1
      have x2 := (H.out.bx 6 rfl 2 _ rfl).1
      have y0 := (H.out.bx 4 rfl 0 _ rfl).1
      have y1 := (H.out.bx 4 rfl 1 _ rfl).1
      have y2 := (H.out.bx 4 rfl 2 _ rfl).1
      have z0 := (H.out.bx 0 rfl 0 _ rfl).1
      have z1 := (H.out.bx 0 rfl 1 _ rfl).1
      have z2 := (H.out.bx 0 rfl 2 _ rfl).1
      have hn7 : n ≤ 7 := by have h1 := HG.out.2; have h2 := HN.out; omega
      have kN := Shut.mk True.intro
      go_upto_region 16 with (first
        | (go_at_call 16; have _t := kN; with_reducible refine (HON.out _ _ _ (show FRw _ _ _ _ _ from H.out.at 7 rfl).crow).mono ?_; rintro e w13 ⟨rfl, hbel⟩; replace H := Shut.mk (H.out.below hbel); clear hbel _t kN m0 x0 x1 x2 y0 y1 y2 z0 z1 z2; have m0 := (H.out.bx 8 rfl 2 _ rfl).1; have y0 := (H.out.bx 4 rfl 0 _ rfl).1; have y1 := (H.out.bx 4 rfl 1 _ rfl).1; have y2 := (H.out.bx 4 rfl 2 _ rfl).1; have z0 := (H.out.bx 0 rfl 0 _ rfl).1; have z1 := (H.out.bx 0 rfl 1 _ rfl).1; have z2 := (H.out.bx 0 rfl 2 _ rfl).1; have kB := Shut.mk True.intro)
        | (go_at_call 16; have _t := kB; with_reducible refine (HOB.out _ _ _ (show FRw _ _ _ _ _ from H.out.at 5 rfl).crow).mono ?_; rintro e w14 ⟨rfl, hbel⟩; replace H := Shut.mk (H.out.below hbel); clear hbel _t kB m0 y0 y1 y2 z0 z1 z2; have z0 := (H.out.bx 0 rfl 0 _ rfl).1; have z1 := (H.out.bx 0 rfl 1 _ rfl).1; have z2 := (H.out.bx 0 rfl 2 _ rfl).1; have kD := Shut.mk True.intro)
        | (go_at_call 16; have _t := kD; with_reducible refine (HOD.out _ _ _ (show FRw _ _ _ _ _ from H.out.at 1 rfl).crow).mono ?_; rintro e w15 ⟨rfl, hbel⟩; replace H := Shut.mk (H.out.below hbel); clear hbel _t kD z0 z1 z2))
      go_loopw [20] (fun i9 wr => ∃ k : Nat, i9 = .int .i64 k ∧ k ≤ n ∧ Shut (SL w wr [bxS db [.int .i64 did, .bool dup, .slice rd dn cd], rwS rd (unS dus) ld hd9, bxS ab [.int .i64 bid, .bool bup, .slice ra bn ca], rwS ra (unS bus) la ha, bxS bb [.int .i64 bid, .bool bup, .slice rb bn cb], rwS rb (unS bus) lb hb9, bxS nb [.int .i64 nid, .bool nup, .slice rn nn cn], rwS rn (unS nus) ln hn, bxS ub [.int .i64 ug, .int .i64 ui, .string ut, .int .i64 0], plS gp pl, bxS hb [.int .i64 id, .bool true, .slice rh n ch], rwS rh (unS us) lh hh])) (fun i9 _ => n - (intOf i9).toNat)
      case atStart => exact ⟨0, rfl, Nat.zero_le _, H⟩
      case round =>
        clear H
        obtain ⟨k, rfl, hk, H⟩ := hrel
        have v2 := (H.out.bx 10 rfl 2 _ rfl).1
        by_cases hlt : k < n
        · have hku : k < us.length := by rw [← HN.out]; exact hlt
          have k0 : (0 : Int) ≤ (k : Int) := by omega
          have k1 : (k : Int) < (n : Int) := by omega
          obtain ⟨b9, off, rfl, lb9, hc⟩ := UnRow.at (show FRw _ _ _ _ _ from H.out.at 11 rfl).crow (show 0 < us.length by omega)
          obtain ⟨d0, d1, d2, d3⟩ := hc k hku
          obtain ⟨x, hx⟩ : ∃ x, x = us[k] := ⟨_, rfl⟩
          rw [← hx] at d0 d1 d2 d3
          have HM : Shut (x ∈ us) := ⟨by rw [hx]; exact List.getElem_mem hku⟩
          have HQ := Shut.mk (H.out.new #[.int .i64 x.group, .int .i64 x.index, .string x.text, .int .i64 x.sum] 32)
          obtain ⟨xb, hxb⟩ : ∃ q, q = wr.heap.size := ⟨_, rfl⟩
          rw [← hxb] at HQ
          clear hc hx
          go_upto_region 19 with fail
          refine wp_shade (fun W => SL w W [bxS xb [.int .i64 x.group, .int .i64 x.index, .string x.text, .int .i64 x.sum], bxS db [.int .i64 did, .bool dup, .slice rd dn cd], rwS rd (unS dus) ld hd9, bxS ab [.int .i64 bid, .bool bup, .slice ra bn ca], rwS ra (unS bus) la ha, bxS bb [.int .i64 bid, .bool bup, .slice rb bn cb], rwS rb (unS bus) lb hb9, bxS nb [.int .i64 nid, .bool nup, .slice rn nn cn], rwS rn (unS nus) ln hn, bxS ub [.int .i64 ug, .int .i64 ui, .string ut, .int .i64 0], plS gp pl, bxS hb [.int .i64 id, .bool true, .slice (some ⟨b9, off, none⟩) n ch], rwS (some ⟨b9, off, none⟩) (unS us) lh hh]) HQ.out ?_
          intro W18 hW
          rw [← hxb]
          clear H HQ hxb d0 d1 d2 d3 v2
          have H := Shut.mk hW
          clear hW
          have s0 := (H.out.bx 0 rfl 0 _ rfl).1
          have s1 := (H.out.bx 0 rfl 1 _ rfl).1
          have y0 := (H.out.bx 9 rfl 0 _ rfl).1
          have y1 := (H.out.bx 9 rfl 1 _ rfl).1
          have HXU : Shut (unSame x ⟨ug, ui, ut, 0⟩ = (x.group == ug && x.index == ui)) := ⟨rfl⟩
          have OTHER : (x.group == ug && x.index == ui) = false → Shut (unSame x ⟨ug, ui, ut, 0⟩ = false) := fun h => ⟨by rw [HXU.out]; exact h⟩
          cases h1 : x.group == ug with
          | true =>
            cases h2 : x.index == ui with
            | true =>
              clear OTHER
              go_wp2_with fail
              go_roundw
              case rel => exact ⟨k + 1, by go_num, by omega, ⟨H.out.tail⟩⟩
              case measure => simp [intOf]; omega
            | false =>
              have HO := OTHER (by rw [h1, h2]; rfl)
              clear OTHER
              have v0 := (H.out.bx 11 rfl 0 _ rfl).1
              have v1 := (H.out.bx 11 rfl 1 _ rfl).1
              have v2 := (H.out.bx 11 rfl 2 _ rfl).1
              have HGA := Shut.mk (fun (W : World) (h : UnRow W (some ⟨b9, off, none⟩) us) => HGS.out W _ ch x.group x.index h)
              have HGB := Shut.mk (fun (W : World) (hb : Below w.heap.size w W) (h : UnRow W rd dus) => HGX.out W _ cd x HM.out HO.out hb h)
              generalize getX ⟨id, true, us⟩ x.group x.index = gx at HGA HGB
              obtain ⟨gt, gb⟩ := gx
              dsimp only at HGA HGB
              have hgb : (gb != gb) = false := by simp
              go_upto_region 21 with (go_at_call 17; refine (HGA.out _ (show FRw _ _ _ _ _ from H.out.at 12 rfl).crow).mono ?_; rintro e w20 ⟨rfl, hbel⟩; replace H := Shut.mk (H.out.below hbel); clear hbel s0 s1 y0 y1 v0 v1 v2)
              have s0 := (H.out.bx 0 rfl 0 _ rfl).1
              have s1 := (H.out.bx 0 rfl 1 _ rfl).1
              have z0 := (H.out.bx 1 rfl 0 _ rfl).1
              have z1 := (H.out.bx 1 rfl 1 _ rfl).1
              have z2 := (H.out.bx 1 rfl 2 _ rfl).1
              go_upto_region 22 with (go_at_call 13; refine (HGB.out _ H.out.bel (show FRw _ _ _ _ _ from H.out.at 2 rfl).crow).mono ?_; rintro e w21 ⟨rfl, hbel⟩; replace H := Shut.mk (H.out.below hbel); clear hbel s0 s1 z0 z1 z2)
              go_wp2_with fail
              go_roundw
              case rel => exact ⟨k + 1, by go_num, by omega, ⟨H.out.tail⟩⟩
              case measure => simp [intOf]; omega
          | false =>
            have HO := OTHER (by rw [h1]; rfl)
            clear OTHER
            have v0 := (H.out.bx 11 rfl 0 _ rfl).1
            have v1 := (H.out.bx 11 rfl 1 _ rfl).1
            have v2 := (H.out.bx 11 rfl 2 _ rfl).1
            have HGA := Shut.mk (fun (W : World) (h : UnRow W (some ⟨b9, off, none⟩) us) => HGS.out W _ ch x.group x.index h)
            have HGB := Shut.mk (fun (W : World) (hb : Below w.heap.size w W) (h : UnRow W rd dus) => HGX.out W _ cd x HM.out HO.out hb h)
            generalize getX ⟨id, true, us⟩ x.group x.index = gx at HGA HGB
            obtain ⟨gt, gb⟩ := gx
            dsimp only at HGA HGB
            have hgb : (gb != gb) = false := by simp
            go_upto_region 21 with (go_at_call 17; refine (HGA.out _ (show FRw _ _ _ _ _ from H.out.at 12 rfl).crow).mono ?_; rintro e w20 ⟨rfl, hbel⟩; replace H := Shut.mk (H.out.below hbel); clear hbel s0 s1 y0 y1 v0 v1 v2)
            have s0 := (H.out.bx 0 rfl 0 _ rfl).1
            have s1 := (H.out.bx 0 rfl 1 _ rfl).1
            have z0 := (H.out.bx 1 rfl 0 _ rfl).1
            have z1 := (H.out.bx 1 rfl 1 _ rfl).1
            have z2 := (H.out.bx 1 rfl 2 _ rfl).1
            go_upto_region 22 with (go_at_call 13; refine (HGB.out _ H.out.bel (show FRw _ _ _ _ _ from H.out.at 2 rfl).crow).mono ?_; rintro e w21 ⟨rfl, hbel⟩; replace H := Shut.mk (H.out.below hbel); clear hbel s0 s1 z0 z1 z2)
            go_wp2_with fail
            go_roundw
            case rel => exact ⟨k + 1, by go_num, by omega, ⟨H.out.tail⟩⟩
            case measure => simp [intOf]; omega
        · obtain rfl : n = k := by omega
          obtain ⟨q1, q1z⟩ := H.out.bx 6 rfl 1 _ rfl
          have HQ := Shut.mk (H.out.put 6 rfl 1 (.bool false) (by simp))
          simp only [List.set_cons_zero, List.set_cons_succ] at HQ
          go_upto_region 25 with fail
          refine wp_shade (fun W => SL w W [bxS db [.int .i64 did, .bool dup, .slice rd dn cd], rwS rd (unS dus) ld hd9, bxS ab [.int .i64 bid, .bool bup, .slice ra bn ca], rwS ra (unS bus) la ha, bxS bb [.int .i64 bid, .bool bup, .slice rb bn cb], rwS rb (unS bus) lb hb9, bxS nb [.int .i64 nid, .bool false, .slice rn nn cn], rwS rn (unS nus) ln hn, bxS ub [.int .i64 ug, .int .i64 ui, .string ut, .int .i64 0], plS gp pl, bxS hb [.int .i64 id, .bool true, .slice rh n ch], rwS rh (unS us) lh hh]) HQ.out ?_
          intro W24 hW
          clear H HQ q1 q1z v2
          have H := Shut.mk hW
          clear hW
          have x0 := (H.out.bx 6 rfl 0 _ rfl).1
          have x1 := (H.out.bx 6 rfl 1 _ rfl).1
          have x2 := (H.out.bx 6 rfl 2 _ rfl).1
          have y0 := (H.out.bx 8 rfl 0 _ rfl).1
          have y1 := (H.out.bx 8 rfl 1 _ rfl).1
          go_upto_region 26 with (go_at_call 13; refine (HG4.out _ _ _ H.out.bel (show FRw _ _ _ _ _ from H.out.at 7 rfl).crow).mono ?_; rintro e w25 ⟨rfl, hbel⟩; replace H := Shut.mk (H.out.below hbel); clear hbel x0 x1 x2 y0 y1)
          have x2 := (H.out.bx 6 rfl 2 _ rfl).1
          have z2 := (H.out.bx 0 rfl 2 _ rfl).1
          have hlen : (dn : Int) + 1 = (nn : Int) := by have := HLEN.out; omega
          have hdn : dn ≤ 8 := by have := HLEN.out; omega
          go_wp2_with (first
            | (go_at_call 18; refine (HST1.out _ H.out.bel).mono ?_; rintro e w26 ⟨rfl, hw26⟩; subst hw26)
            | (go_at_call 19; refine (HST2.out _).mono ?_; rintro e w27 ⟨rfl, hw27⟩; subst hw27))
          go_ret
          exact ⟨rfl, H.out.bel⟩
end Go.Proofs.YtbanfccnmbmcfaaDoor
/- OpenC: The code that a drawn law is handed: what came in. -/
namespace Go.Proofs.YtbanfccnmbmcfaaDoor
set_option maxRecDepth 100000
open Go.RowKit Go.ChangeShapes Go.WideShapes
set_option maxRecDepth 100000 in
theorem open_code {H : Type} {enc : TypeId × Value → H} {W : World} {r : Reach} {b0 base : Nat} {held : Bool} {v : Value} {d : DataW H} {p : List MemPlace}
    (hv : Value.okWide Tryd.prog W r b0 22 v) (h : DataW.Trod enc Tryd.prog W base (fun _ => true) held 22 v d p) : ∃ a len cap, v = .slice a len cap ∧ (len ≤ 1048576 → CodeAt W W.heap.size a len) := by
  obtain ⟨a0, l0, c0, rfl⟩ := okWide_slice Tryd.underlying22 hv
  refine ⟨a0, l0, c0, rfl, fun hl => ?_⟩
  obtain ⟨fuel, hf⟩ := h
  rcases open_ints Tryd.underlying22 Tryd.underlying5 (by kernel_rfl) hf with ⟨hcs, _⟩ | ⟨x, l, c, zs, hcs, _, hl', hm, hz, _, hcell, hwz⟩
  · simp [Value.cells] at hcs
    obtain ⟨rfl, rfl, rfl⟩ := hcs
    exact code_at (cap := 0) (zs := []) hl (.inl ⟨rfl, rfl⟩)
  · simp [Value.cells] at hcs
    obtain ⟨rfl, rfl, rfl⟩ := hcs
    exact code_at (cap := c0) (zs := zs) hl (.inr ⟨_, rfl, hl', by simpa using hz, hcell, hwz⟩)
end Go.Proofs.YtbanfccnmbmcfaaDoor
