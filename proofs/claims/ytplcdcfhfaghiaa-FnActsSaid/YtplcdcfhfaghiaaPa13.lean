/- Texts of ours, laid one behind the other: LawFa. -/
import Derived.Test.YtplcdcfhfaghiaaPa12
/- LawFa: The law FnActs (written by gen/mklawfa.py). -/
namespace Go.Proofs.Ytplcdcfhfaghiaa
set_option maxRecDepth 100000
open Go.RowKit BigFrame
attribute [local go_sem ↓] Go.wp_at_zero Go.wp_at_succ

/-- A disk that the program's functions take. -/
structure DgF (fs : List FM) : Prop where
  fit : FFit fs
  few : fs.length ≤ 1048576
  sum : fsum fs ≤ 1048576
theorem fsum_le {fs : List FM} {z : Nat} (h : ∀ f ∈ fs, f.name.size + f.text.size ≤ z) : fsum fs ≤ fs.length * z := by
  induction fs with
  | nil => exact Nat.zero_le _
  | cons f fs ih =>
    have h1 := h f (List.mem_cons_self ..)
    have h2 := ih fun g hg => h g (List.mem_cons_of_mem _ hg)
    rw [List.length_cons, Nat.succ_mul]
    unfold fsum
    omega
theorem DG.dgf {fs : List FM} (h : DG fs 31) : DgF fs := by
  obtain ⟨h1, h2⟩ := DG.fit h (by omega)
  have h3 := fsum_le (z := 20010) fun f hf => by have := h.all f hf; have a1 := this.1; have a2 := this.2.1; omega
  have h4 : fs.length * 20010 ≤ 31 * 20010 := Nat.mul_le_mul_right _ h.few
  exact ⟨h1, h2, by omega⟩
theorem DOk.dgf {fs : List FM} (h : DOk fs) : DgF fs := by
  have h3 := fsum_le (z := 20008) fun f hf => by have := h.ok f hf; have a1 := this.1.2; have a2 := this.2.1; omega
  have h4 : fs.length * 20008 ≤ 30 * 20008 := Nat.mul_le_mul_right _ h.1
  have h5 := h.1
  exact ⟨h.fit, by omega, by omega⟩
theorem acts_good {xs : List AM} (h : ∀ x ∈ xs, ADk x) : AGood xs := fun x hx => by
  obtain ⟨h1, h2, h3⟩ := h x hx
  exact ⟨by omega, by omega, by omega⟩
theorem SL.perm {w0 W : World} {S S' : List Str} (h : SL w0 W S) (hs : S.Perm S') : SL w0 W S' :=
  ⟨h.bel, fun s k => h.is s (hs.mem_iff.2 k), (hs.pairwise_iff fun q => q.symm).1 h.apart⟩
/-- An act of a row in memory. -/
theorem act_cells {W : World} {g : Nat} {xs : List AM} {k : Nat} {x : AM} (h : WCells W g (acs xs)) (hk : k < xs.length) (hx : x = xs[k]) :
    W.cell? ⟨g, k * 4, none⟩ = some (.int .i64 x.kind) ∧ W.cell? ⟨g, k * 4 + 1, none⟩ = some (.string x.name) ∧ W.cell? ⟨g, k * 4 + 2, none⟩ = some (.string x.text) ∧ W.cell? ⟨g, k * 4 + 3, none⟩ = some (.string x.dst) := by
  subst hx
  exact ⟨(h.2 (k * 4) _ (flat_get acells_len xs k hk 0 (by omega))).1, (h.2 (k * 4 + 1) _ (flat_get acells_len xs k hk 1 (by omega))).1, (h.2 (k * 4 + 2) _ (flat_get acells_len xs k hk 2 (by omega))).1, (h.2 (k * 4 + 3) _ (flat_get acells_len xs k hk 3 (by omega))).1⟩
theorem frw_some {W : World} {g lo hi : Nat} {L : List Value} (h : FRw W (some ⟨g, 0, none⟩) L lo hi) : WCells W g L := by
  rcases h with ⟨e, _⟩ | ⟨g', e, _, _, hw⟩
  · cases e
  · cases e
    exact hw
theorem txA_le {fs : List FM} (n : ByteArray) : (txA fs n).size ≤ fsum fs := by
  unfold txA
  cases e : fileOf fs n with
  | none => exact Nat.zero_le _
  | some f =>
    obtain ⟨hm, _⟩ := fileOf_some e
    show f.text.size ≤ fsum fs
    clear e
    induction fs with
    | nil => cases hm
    | cons g fs ih =>
      unfold fsum
      rcases List.mem_cons.1 hm with q | q
      · rw [q]; omega
      · have := ih q; omega
theorem cut_few {fs : List FM} {xs : List AM} {k : Int} {ks : List Int} (h : fs.length ≤ 1048576) : (cutR fs xs k ks).1.length ≤ 1048576 := by
  have hl : ∀ gs : List FM, (lostD gs ks).length ≤ gs.length := fun gs => by unfold lostD; split <;> simp [lostTo_len]
  unfold cutR
  split
  · split
    · exact Nat.zero_le _
    · refine Nat.le_trans (hl _) ?_
      rcases doAs_or fs (xs.take k.toNat) with e | e
      · rw [e]; exact h
      · have := e.1; omega
  · exact Nat.zero_le _
theorem CurD.crow {T : List Str} {b : Option Addr} {cur : List FM} (h : CurD T b cur) {w0 W : World} {S : List Str} (k : SL w0 W S) (hs : ∀ s ∈ T, s ∈ S) : FRow W b cur := by
  obtain ⟨lo, hi, hm⟩ := h
  exact FRw.crow (k.is _ (hs _ hm)).1
set_option maxRecDepth 1000000 in
set_option maxHeartbeats 8000000 in
theorem acts_walk (a : Option Addr) (len cap : Nat) (w : World) (hcode : CodeAt w w.heap.size a len) :
    Calls Try.prog 3 #[.slice a len cap] w fun e w' => e = .returned (.bool true) ∧ Below w.heap.size w w' := by
  have hbig : decide ((1048576 : Int) < (len : Int)) = false := by have := hcode.1; simp; omega
  have HC := Shut.mk hcode
  clear hcode
  go_enter Try.func3, Try.ntmps3
  go_wp2_with fail
  refine (big_any a len cap _).mono ?_
  rintro e w1 ⟨rfl, hw1⟩
  obtain rfl : w = w1 := hw1.symm
  clear hw1
  rw [hbig]
  clear hbig
  go_wp2_with fail
  refine (drawCutActs_any w a len cap HC.out).mono ?_
  rintro e w1 ⟨fs, xs, y, ks, b, ba, bk, c, ca, ck, l1, h1, l2, h2, l3, h3, rfl, hdg, hx9, hxa, hca, hk6, hsl⟩
  have H := Shut.mk hsl
  have HDF := Shut.mk hdg.dgf
  have HXA := Shut.mk hxa
  have HDA := Shut.mk (fun (W : World) (h : FRow W b fs) (k : ARow W ba xs) => implDoActs b ba fs xs c ca W h HDF.out.fit HDF.out.few HDF.out.sum k (acts_good hxa) (by omega))
  have HDS := Shut.mk (fun (W : World) (h : FRow W b fs) (k : ARow W ba xs) => specDoActsZ b ba fs xs c ca W h HDF.out.fit HDF.out.few k (acts_good hxa) (by omega))
  have HCI := Shut.mk (fun (W : World) (h : FRow W b fs) (k : ARow W ba xs) (j : IRowD W bk ks) => implCutActsZ b ba bk fs xs y ks c ca ck hca W h HDF.out.fit HDF.out.few HDF.out.sum k (acts_good hxa) (by omega) j (by omega))
  have HCS := Shut.mk (fun (W : World) (h : FRow W b fs) (k : ARow W ba xs) (j : IRowD W bk ks) => specCutActsZ b ba bk fs xs y ks c ca ck hca W h HDF.out.fit HDF.out.few HDF.out.sum k (acts_good hxa) (by omega) j (by omega))
  have HST := Shut.mk (fun (k : Nat) (cur : List FM) (h : Ran fs xs k cur) (e : k < (doAs fs xs).2) (hk : k < xs.length) => h.next e hk)
  have HEN := Shut.mk (fun (cur : List FM) (h : Ran fs xs (doAs fs xs).2 cur) => h.here rfl)
  have hle := doAs_le fs xs
  have HGF : Shut (DgF (doAs fs xs).1) := ⟨by rcases doAs_or fs xs with e | e; rw [e]; exact HDF.out; exact e.dgf⟩
  have HGC : Shut ((cutR fs xs y ks).1.length ≤ 1048576) := ⟨cut_few HDF.out.few⟩
  generalize doAs fs xs = RR at HDA HDS HST HEN hle HGF
  obtain ⟨gs, nR⟩ := RR
  generalize cutR fs xs y ks = CC at HCI HCS HGC
  obtain ⟨cs, cok⟩ := CC
  unfold DiskPost at HDA HDS HCI HCS
  dsimp only at HDA HDS HCI HCS HST HEN hle HGF HGC
  clear hdg hxa hsl HC
  replace H := Shut.mk (H.out.new #[.slice b fs.length c] 26)
  obtain ⟨b3, hb3⟩ : ∃ q, q = w1.heap.size := ⟨_, rfl⟩
  rw [← hb3] at H
  go_upto_region 4 with fail
  refine wp_shade (fun W => SL w W [bxS b3 [.slice b fs.length c], rwS bk (ics ks) l3 h3, rwS ba (acs xs) l2 h2, rwS b (fcs fs) l1 h1]) H.out ?_
  intro W2 hW
  rw [← hb3]
  replace H := Shut.mk hW
  clear hW hb3
  have x3 := (H.out.bx 0 rfl 0 _ rfl).1
  go_wp2_with fail
  refine (HDA.out _ (show FRw _ _ _ _ _ from H.out.at 3 rfl).crow (show FRw _ _ _ _ _ from H.out.at 2 rfl).crow).mono ?_
  rintro e w3 ⟨v7, c7, rfl, hF, _, hb⟩
  replace H := Shut.mk (H.out.add (s := rwS v7 (fcs gs) _ _) hb hF (rwS.loc _ _ _ _) (Nat.le_refl _) (Nat.le_refl _))
  clear hF hb x3 HDA
  obtain ⟨lv7, hlv7⟩ : ∃ q, q = W2.heap.size := ⟨_, rfl⟩
  obtain ⟨hv7, hhv7⟩ : ∃ q, q = w3.heap.size := ⟨_, rfl⟩
  rw [← hlv7, ← hhv7] at H
  clear hlv7 hhv7
  replace H := Shut.mk (H.out.new #[.slice v7 gs.length c7] 26)
  obtain ⟨b7, hb7⟩ : ∃ q, q = w3.heap.size := ⟨_, rfl⟩
  rw [← hb7] at H
  go_upto_region 5 with fail
  refine wp_shade (fun W => SL w W [bxS b7 [.slice v7 gs.length c7], rwS v7 (fcs gs) lv7 hv7, bxS b3 [.slice b fs.length c], rwS bk (ics ks) l3 h3, rwS ba (acs xs) l2 h2, rwS b (fcs fs) l1 h1]) H.out ?_
  intro W4 hW
  rw [← hb7]
  replace H := Shut.mk hW
  clear hW hb7
  have x3 := (H.out.bx 2 rfl 0 _ rfl).1
  go_wp2_with fail
  refine (HDS.out _ (show FRw _ _ _ _ _ from H.out.at 5 rfl).crow (show FRw _ _ _ _ _ from H.out.at 4 rfl).crow).mono ?_
  rintro e w5 ⟨v9, c9, rfl, hF, _, hb⟩
  replace H := Shut.mk (H.out.add (s := rwS v9 (fcs gs) _ _) hb hF (rwS.loc _ _ _ _) (Nat.le_refl _) (Nat.le_refl _))
  clear hF hb x3 HDS
  obtain ⟨lv9, hlv9⟩ : ∃ q, q = W4.heap.size := ⟨_, rfl⟩
  obtain ⟨hv9, hhv9⟩ : ∃ q, q = w5.heap.size := ⟨_, rfl⟩
  rw [← hlv9, ← hhv9] at H
  clear hlv9 hhv9
  replace H := Shut.mk (H.out.new #[.slice v9 gs.length c9] 26)
  obtain ⟨b9, hb9⟩ : ∃ q, q = w5.heap.size := ⟨_, rfl⟩
  rw [← hb9] at H
  go_upto_region 6 with fail
  refine wp_shade (fun W => SL w W [bxS b9 [.slice v9 gs.length c9], rwS v9 (fcs gs) lv9 hv9, bxS b7 [.slice v7 gs.length c7], rwS v7 (fcs gs) lv7 hv7, bxS b3 [.slice b fs.length c], rwS bk (ics ks) l3 h3, rwS ba (acs xs) l2 h2, rwS b (fcs fs) l1 h1]) H.out ?_
  intro W6 hW
  rw [← hb9]
  replace H := Shut.mk hW
  clear hW hb9
  have x7 := (H.out.bx 2 rfl 0 _ rfl).1
  have x9 := (H.out.bx 0 rfl 0 _ rfl).1
  go_wp2_with fail
  refine (sameDisk_same v7 v9 gs c7 c9 _ (show FRw _ _ _ _ _ from H.out.at 3 rfl).crow (show FRw _ _ _ _ _ from H.out.at 1 rfl).crow HGF.out.few).mono ?_
  rintro e w7 ⟨rfl, hb⟩
  replace H := Shut.mk (H.out.below hb)
  clear hb x7 x9
  have x3 := (H.out.bx 4 rfl 0 _ rfl).1
  replace H := Shut.mk (H.out.new #[.slice b fs.length c] 26)
  obtain ⟨b11, hb11⟩ : ∃ q, q = w7.heap.size := ⟨_, rfl⟩
  rw [← hb11] at H
  go_upto_region 9 with fail
  clear x3
  refine wp_shade (fun W => SL w W [bxS b11 [.slice b fs.length c], bxS b9 [.slice v9 gs.length c9], rwS v9 (fcs gs) lv9 hv9, bxS b7 [.slice v7 gs.length c7], rwS v7 (fcs gs) lv7 hv7, bxS b3 [.slice b fs.length c], rwS bk (ics ks) l3 h3, rwS ba (acs xs) l2 h2, rwS b (fcs fs) l1 h1]) H.out ?_
  intro W8 hW
  rw [← hb11]
  replace H := Shut.mk hW
  clear hW hb11
  obtain ⟨S0, hS0⟩ : ∃ q, q = [bxS b9 [.slice v9 gs.length c9], rwS v9 (fcs gs) lv9 hv9, bxS b7 [.slice v7 gs.length c7], rwS v7 (fcs gs) lv7 hv7, bxS b3 [.slice b fs.length c], rwS bk (ics ks) l3 h3, rwS ba (acs xs) l2 h2, rwS b (fcs fs) l1 h1] := ⟨_, rfl⟩
  have HS0 := Shut.mk hS0
  have HMA : Shut (rwS ba (acs xs) l2 h2 ∈ S0) := ⟨by rw [hS0]; exact List.mem_of_getElem? (show _[6]? = some (rwS ba (acs xs) l2 h2) from rfl)⟩
  have HMB : Shut (CurD S0 b fs) := ⟨⟨l1, h1, by rw [hS0]; exact List.mem_of_getElem? (show _[7]? = some (rwS b (fcs fs) l1 h1) from rfl)⟩⟩
  rw [← hS0] at H
  clear hS0
  go_wp2_with fail
  go_loopw [12] (fun i12 wr => ∃ (k : Nat) (cur : List FM) (T : List Str) (va : Option Addr) (vc : Nat), i12 = .int .i64 (k : Nat) ∧ k ≤ nR ∧ Shut (Ran fs xs k cur) ∧ Shut (DgF cur) ∧ Shut (CurD (T ++ S0) va cur) ∧ Shut (SL w wr (bxS b11 [.slice va cur.length vc] :: (T ++ S0)))) (fun i12 _ => nR - (intOf i12).toNat)
  case atStart => exact ⟨0, fs, [], b, c, rfl, by omega, ⟨Ran.start fs xs⟩, HDF, ⟨HMB.out⟩, ⟨H.out⟩⟩
  case round =>
    clear H HMB HDF
    obtain ⟨k, cur, T, va, vc, rfl, hk, HR, HDC, HCD, H⟩ := hrel
    by_cases hlt : k < nR
    · have hkx : k < xs.length := by omega
      obtain ⟨o, ho⟩ := HST.out k cur HR.out hlt hkx
      have HRN := Shut.mk (HR.out.step hkx ho)
      have HOD := Shut.mk (doA_ok ho).dgf
      have hadk := HXA.out xs[k] (List.getElem_mem hkx)
      have hrow : FRw wr ba (acs xs) l2 h2 := (H.out.is _ (List.mem_cons_of_mem _ (List.mem_append_right _ HMA.out))).1
      obtain ⟨ga, rfl, hwc⟩ : ∃ g, ba = some ⟨g, 0, none⟩ ∧ WCells wr g (acs xs) := by
        rcases hrow with ⟨_, e⟩ | ⟨g, e, _, _, hw⟩
        · have := acs_len xs
          rw [e] at this
          simp at this
          omega
        · exact ⟨g, e, hw⟩
      obtain ⟨X, hX⟩ : ∃ X, X = xs[k] := ⟨_, rfl⟩
      have HAC : Shut (∀ x, FRw x (some ⟨ga, 0, none⟩) (acs xs) l2 h2 → x.cell? ⟨ga, k * 4, none⟩ = some (.int .i64 X.kind) ∧ x.cell? ⟨ga, k * 4 + 1, none⟩ = some (.string X.name) ∧ x.cell? ⟨ga, k * 4 + 2, none⟩ = some (.string X.text) ∧ x.cell? ⟨ga, k * 4 + 3, none⟩ = some (.string X.dst)) := ⟨fun x hx => act_cells (frw_some hx) hkx hX⟩
      rw [← hX] at ho hadk
      have HDO := Shut.mk (fun (W : World) (h : FRow W va cur) => implDoActR ho va vc W h HDC.out.fit HDC.out.few HDC.out.sum (fun x hx => by rw [List.mem_singleton.1 hx]; exact hadk.good))
      have HFA := Shut.mk (fun (W : World) (h : FRow W va cur) => implFileAt va cur vc X.name W h HDC.out.fit HDC.out.few HDC.out.sum (by have := hadk.1; omega))
      have HFB := Shut.mk (fun (W : World) (z : Option Addr) (zc : Nat) (h : FRow W z o) => implFileAt z o zc X.name W h HOD.out.fit HOD.out.few HOD.out.sum (by have := hadk.1; omega))
      have HAD := Shut.mk (fun (h1 : X.kind = 1) => doA_added ho h1)
      have HDD := Shut.mk (fun (h4 : X.kind = 4) => doA_dropped ho h4)
      rw [fileV_own] at HFA
      simp only [fileV_own] at HFB
      have htx : ¬ 9223372036854775807 < (txA cur X.name).size + X.text.size := by
        have q1 := txA_le (fs := cur) X.name
        have q2 := HDC.out.sum
        have q3 := hadk.2.1
        omega
      generalize txA cur X.name = t1 at HFA HAD htx
      generalize hasA cur X.name = p1 at HFA
      generalize txA o X.name = t2 at HFB HAD
      generalize hasA o X.name = p2 at HFB HAD HDD
      unfold DiskPost at HDO
      simp only [Option.getD_some, Option.isSome_some] at HDO
      obtain ⟨kd, an, tx, dn⟩ := X
      dsimp only [av] at HDO HAC HFA HFB HAD HDD htx
      obtain ⟨nc, hnc⟩ : ∃ q, q = cur.length := ⟨_, rfl⟩
      obtain ⟨no, hno⟩ : ∃ q, q = o.length := ⟨_, rfl⟩
      have HNO := Shut.mk hno
      rw [← hnc] at H HDO HFA
      rw [← hno] at HDO HFB
      have k0 : (0 : Int) ≤ (k : Int) := by omega
      have k1 : (k : Int) < (xs.length : Int) := by omega
      have k2 : (k : Int) < (nR : Int) := by omega
      clear ho hX hwc hrow hadk hnc hno
      go_upto_region 12 with fail
      go_cut [13, 14] from 59 to 68 (fun u13 u14 wq => ∃ (b13 : Nat) (a8 : Option Addr) (c8 l8 h8 : Nat), u13 = .pointer (some ⟨b13, 0, none⟩) ∧ u14 = .bool true ∧ Shut (SL w wq (bxS b13 [.slice a8 no c8] :: rwS a8 (fcs o) l8 h8 :: bxS b11 [.slice va nc vc] :: (T ++ S0))))
      case first =>
        have HTX : Shut (∀ x, Later wr.drew x → SL w x (bxS b11 [.slice va nc vc] :: (T ++ S0))) := ⟨fun x hx => H.out.below (Below.trans (Below.drew (Below.refl _ _)) hx)⟩
        have HLE : Shut (∀ x, Later wr.drew x → x.cell? ⟨b11, 0, none⟩ = some (.slice va nc vc) ∧ x.cell? ⟨ga, k * 4, none⟩ = some (.int .i64 kd) ∧ x.cell? ⟨ga, k * 4 + 1, none⟩ = some (.string an) ∧ x.cell? ⟨ga, k * 4 + 2, none⟩ = some (.string tx) ∧ x.cell? ⟨ga, k * 4 + 3, none⟩ = some (.string dn)) := ⟨fun x hx => ⟨((HTX.out x hx).bx 0 rfl 0 _ rfl).1, HAC.out x ((HTX.out x hx).is _ (List.mem_cons_of_mem _ (List.mem_append_right _ HMA.out))).1⟩⟩
        have HRW : Shut (∀ x, Later wr.drew x → FRow x va cur) := ⟨fun x hx => HCD.out.crow (HTX.out x hx) fun s hs => List.mem_cons_of_mem _ hs⟩
        refine wp_region_set (fun j => decide (6 ≤ j ∧ j ≠ 9)) (by kernel_rfl) ?_
        refine wpD_val (i := 0) (v := ?vv0) rfl (by kernel_rfl) (by kernel_rfl) (by kernel_rfl) (by kernel_rfl) (fun _ _ _ h => h) (by rfl) ?hyv0 ?restv0
        case hyv0 => (intro x hx; obtain ⟨d0, d1, d2, d3, d4⟩ := HLE.out x hx; go_simp; try with_reducible rfl)
        try simp only [Act.put, List.setIfInBounds_toArray, List.set_cons_zero, List.set_cons_succ]
        refine wpD_val (i := 1) (v := ?vv1) rfl (by kernel_rfl) (by kernel_rfl) (by kernel_rfl) (by kernel_rfl) (fun _ _ _ h => h) (by rfl) ?hyv1 ?restv1
        case hyv1 => (intro x hx; obtain ⟨d0, d1, d2, d3, d4⟩ := HLE.out x hx; go_simp; try with_reducible rfl)
        try simp only [Act.put, List.setIfInBounds_toArray, List.set_cons_zero, List.set_cons_succ]
        refine wpD_val (i := 2) (v := ?vv2) rfl (by kernel_rfl) (by kernel_rfl) (by kernel_rfl) (by kernel_rfl) (fun _ _ _ h => h) (by rfl) ?hyv2 ?restv2
        case hyv2 => (intro x hx; obtain ⟨d0, d1, d2, d3, d4⟩ := HLE.out x hx; go_simp; try with_reducible rfl)
        try simp only [Act.put, List.setIfInBounds_toArray, List.set_cons_zero, List.set_cons_succ]
        refine wpD_val (i := 3) (v := ?vv3) rfl (by kernel_rfl) (by kernel_rfl) (by kernel_rfl) (by kernel_rfl) (fun _ _ _ h => h) (by rfl) ?hyv3 ?restv3
        case hyv3 => (intro x hx; obtain ⟨d0, d1, d2, d3, d4⟩ := HLE.out x hx; go_simp; try with_reducible rfl)
        try simp only [Act.put, List.setIfInBounds_toArray, List.set_cons_zero, List.set_cons_succ]
        refine wpD_val (i := 4) (v := ?vv4) rfl (by kernel_rfl) (by kernel_rfl) (by kernel_rfl) (by kernel_rfl) (fun _ _ _ h => h) (by rfl) ?hyv4 ?restv4
        case hyv4 => (intro x hx; obtain ⟨d0, d1, d2, d3, d4⟩ := HLE.out x hx; go_simp; try with_reducible rfl)
        try simp only [Act.put, List.setIfInBounds_toArray, List.set_cons_zero, List.set_cons_succ]
        refine wpD_callbox (f := 9) (args := #[.agg #[.slice va nc vc], .agg #[.int .i64 kd, .string an, .string tx, .string dn]]) (C := #[.slice none 0 0]) (t := 26) (i := 5) (j := 9) (by kernel_rfl) rfl rfl (by rfl) (by rfl) (fun x hx => by go_simp) (fun x hx => by kernel_rfl) (fun x hx => (HDO.out x (HRW.out x hx)).mono ?_) (fun x hx => ?_)
        · rintro e y2 ⟨a8, c8, rfl, hF, _, hb2⟩
          refine ⟨_, rfl, hb2, ?_⟩
          have HY := Shut.mk ((HTX.out x hx).add (s := rwS a8 (fcs o) _ _) hb2 hF (rwS.loc _ _ _ _) (Nat.le_refl _) (Nat.le_refl _))
          clear hF hb2
          try simp only [Act.put, List.setIfInBounds_toArray, List.set_cons_zero, List.set_cons_succ]
          clear hx
          refine wpD_pure (i := 6) (v := ?vp6) rfl (by kernel_rfl) (by kernel_rfl) (by kernel_rfl) (by kernel_rfl) (fun _ _ _ h => h) (by rfl) ?hyp6 ?restp6
          case hyp6 => (intro x; go_simp; try with_reducible rfl)
          try simp only [Act.put, List.setIfInBounds_toArray, List.set_cons_zero, List.set_cons_succ]
          refine wpD_pure (i := 7) (v := ?vp7) rfl (by kernel_rfl) (by kernel_rfl) (by kernel_rfl) (by kernel_rfl) (fun _ _ _ h => h) (by rfl) ?hyp7 ?restp7
          case hyp7 => (intro x; go_simp; try with_reducible rfl)
          try simp only [Act.put, List.setIfInBounds_toArray, List.set_cons_zero, List.set_cons_succ]
          refine wpD_pure (i := 8) (v := ?vp8) rfl (by kernel_rfl) (by kernel_rfl) (by kernel_rfl) (by kernel_rfl) (fun _ _ _ h => h) (by rfl) ?hyp8 ?restp8
          case hyp8 => (intro x; go_simp; try with_reducible rfl)
          try simp only [Act.put, List.setIfInBounds_toArray, List.set_cons_zero, List.set_cons_succ]
          refine wpD_one (i := 9) (by kernel_rfl) rfl (by rfl) (fun x2 hx2 => ⟨.pointer (some ⟨x2.heap.size, 0, none⟩), x2.alloc (.cells #[.slice none 0 0] 26), by kernel_rfl, (Below.refl _ _).alloc (Nat.le_refl _) _, ?_⟩)
          have HY2 := Shut.mk ((HY.out.below hx2).new #[.slice none 0 0] 26)
          obtain ⟨nb, hnb⟩ : ∃ nb, nb = x2.heap.size := ⟨_, rfl⟩
          rw [← hnb] at HY2 ⊢
          clear hx2 hnb HY
          try simp only [Act.put, List.setIfInBounds_toArray, List.set_cons_zero, List.set_cons_succ]
          refine wpD_tail (by kernel_rfl) ?_
          intro x5 hx5
          have HY3 := Shut.mk (HY2.out.below hx5)
          obtain ⟨q0, qf0⟩ := HY3.out.bx 0 rfl 0 _ rfl
          refine wpA_step (y := x5.setCell ⟨nb, 0, none⟩ (.slice a8 no c8)) (i := 10) (by kernel_rfl) rfl (by rfl) (by go_simp) ?_
          have HZ := Shut.mk (HY3.out.put 0 rfl 0 (.slice a8 no c8) (by simp))
          simp only [List.set_cons_zero] at HZ
          clear q0 qf0 hx5 HY2 HY3
          simp only [Act.put]
          refine wpA_val (i := 11) (v := .bool true) rfl (by kernel_rfl) (by kernel_rfl) (by kernel_rfl) (fun _ _ _ h => h) (by rfl) (fun x => by go_simp) ?_
          try simp only [Act.put, List.setIfInBounds_toArray, List.set_cons_zero, List.set_cons_succ]
          refine wpA_done (by kernel_rfl) ?_ _
          go_wp2_with fail
          go_meet
          case rel => exact ⟨nb, a8, c8, _, _, rfl, rfl, ⟨HZ.out⟩⟩
        · have HW := Shut.mk ((HTX.out x hx).new #[.slice none 0 0] 26)
          have HRX : Shut (∀ z, Later (x.alloc (.cells #[.slice none 0 0] 26)) z → FRow z va cur) := ⟨fun z hz => HRW.out z (Later.trans (Later.trans hx ((Below.refl _ _).alloc (Nat.le_refl _) _)) hz)⟩
          obtain ⟨nb, hnb⟩ : ∃ nb, nb = x.heap.size := ⟨_, rfl⟩
          rw [← hnb] at HW ⊢
          generalize x.alloc (.cells #[.slice none 0 0] 26) = xx at HW HRX ⊢
          clear hnb hx
          try simp only [Act.put, List.setIfInBounds_toArray, List.set_cons_zero, List.set_cons_succ]
          refine wpD_onecall (f := 9) (args := #[.agg #[.slice va nc vc], .agg #[.int .i64 kd, .string an, .string tx, .string dn]]) (i := 5) (by kernel_rfl) rfl (by rfl) (fun x hx => by go_simp) (fun x hx => (HDO.out x (HRX.out x hx)).mono ?_)
          rintro e y2 ⟨a8, c8, rfl, hF, _, hb2⟩
          refine ⟨_, rfl, hb2, ?_⟩
          have HY := Shut.mk ((HW.out.below hx).add (s := rwS a8 (fcs o) _ _) hb2 hF (rwS.loc _ _ _ _) (Nat.le_refl _) (Nat.le_refl _))
          clear hF hb2
          try simp only [Act.put, List.setIfInBounds_toArray, List.set_cons_zero, List.set_cons_succ]
          clear hx HW
          refine wpD_pure (i := 6) (v := ?vr6) rfl (by kernel_rfl) (by kernel_rfl) (by kernel_rfl) (by kernel_rfl) (fun _ _ _ h => h) (by rfl) ?hyr6 ?restr6
          case hyr6 => (intro x; go_simp; try with_reducible rfl)
          try simp only [Act.put, List.setIfInBounds_toArray, List.set_cons_zero, List.set_cons_succ]
          refine wpD_pure (i := 7) (v := ?vr7) rfl (by kernel_rfl) (by kernel_rfl) (by kernel_rfl) (by kernel_rfl) (fun _ _ _ h => h) (by rfl) ?hyr7 ?restr7
          case hyr7 => (intro x; go_simp; try with_reducible rfl)
          try simp only [Act.put, List.setIfInBounds_toArray, List.set_cons_zero, List.set_cons_succ]
          refine wpD_pure (i := 8) (v := ?vr8) rfl (by kernel_rfl) (by kernel_rfl) (by kernel_rfl) (by kernel_rfl) (fun _ _ _ h => h) (by rfl) ?hyr8 ?restr8
          case hyr8 => (intro x; go_simp; try with_reducible rfl)
          try simp only [Act.put, List.setIfInBounds_toArray, List.set_cons_zero, List.set_cons_succ]
          have HY2 := HY
          clear HY
          refine wpD_tail (by kernel_rfl) ?_
          intro x5 hx5
          have HY3 := Shut.mk (HY2.out.below hx5)
          obtain ⟨q0, qf0⟩ := HY3.out.bx 1 rfl 0 _ rfl
          refine wpA_step (y := x5.setCell ⟨nb, 0, none⟩ (.slice a8 no c8)) (i := 10) (by kernel_rfl) rfl (by rfl) (by go_simp) ?_
          have HZ := Shut.mk (HY3.out.put 1 rfl 0 (.slice a8 no c8) (by simp))
          simp only [List.set_cons_zero, List.set_cons_succ] at HZ
          clear q0 qf0 hx5 HY2 HY3
          simp only [Act.put]
          refine wpA_val (i := 11) (v := .bool true) rfl (by kernel_rfl) (by kernel_rfl) (by kernel_rfl) (fun _ _ _ h => h) (by rfl) (fun x => by go_simp) ?_
          try simp only [Act.put, List.setIfInBounds_toArray, List.set_cons_zero, List.set_cons_succ]
          refine wpA_done (by kernel_rfl) ?_ _
          go_wp2_with fail
          go_meet
          case rel => exact ⟨nb, a8, c8, _, _, rfl, rfl, ⟨HZ.out.swap⟩⟩
      case rest =>
        obtain ⟨b13, a8, c8, l8, h8, rfl, rfl, H⟩ := hcut
        clear HDO
        go_upto_region 15 with fail
        have HTX : Shut (∀ x, Later wc.drew x → SL w x (bxS b13 [.slice a8 no c8] :: rwS a8 (fcs o) l8 h8 :: bxS b11 [.slice va nc vc] :: (T ++ S0))) := ⟨fun x hx => H.out.below (Below.trans (Below.drew (Below.refl _ _)) hx)⟩
        have HLE : Shut (∀ x, Later wc.drew x → x.cell? ⟨b11, 0, none⟩ = some (.slice va nc vc) ∧ x.cell? ⟨ga, k * 4, none⟩ = some (.int .i64 kd) ∧ x.cell? ⟨ga, k * 4 + 1, none⟩ = some (.string an) ∧ x.cell? ⟨ga, k * 4 + 2, none⟩ = some (.string tx) ∧ x.cell? ⟨ga, k * 4 + 3, none⟩ = some (.string dn)) := ⟨fun x hx => ⟨((HTX.out x hx).bx 2 rfl 0 _ rfl).1, HAC.out x ((HTX.out x hx).is _ (List.mem_cons_of_mem _ (List.mem_cons_of_mem _ (List.mem_cons_of_mem _ (List.mem_append_right _ HMA.out))))).1⟩⟩
        refine wp_region_set (fun _ => false) (by kernel_rfl) ?_
        refine wpD_val (i := 0) (v := ?vf0) rfl (by kernel_rfl) (by kernel_rfl) (by kernel_rfl) (by kernel_rfl) (fun _ _ _ h => h) (by rfl) ?hyf0 ?restf0
        case hyf0 => (intro x hx; obtain ⟨d0, d1, d2, d3, d4⟩ := HLE.out x hx; go_simp; try with_reducible rfl)
        try simp only [Act.put, List.setIfInBounds_toArray, List.set_cons_zero, List.set_cons_succ]
        refine wpD_val (i := 1) (v := ?vf1) rfl (by kernel_rfl) (by kernel_rfl) (by kernel_rfl) (by kernel_rfl) (fun _ _ _ h => h) (by rfl) ?hyf1 ?restf1
        case hyf1 => (intro x hx; obtain ⟨d0, d1, d2, d3, d4⟩ := HLE.out x hx; go_simp; try with_reducible rfl)
        try simp only [Act.put, List.setIfInBounds_toArray, List.set_cons_zero, List.set_cons_succ]
        refine wpD_val (i := 2) (v := ?vf2) rfl (by kernel_rfl) (by kernel_rfl) (by kernel_rfl) (by kernel_rfl) (fun _ _ _ h => h) (by rfl) ?hyf2 ?restf2
        case hyf2 => (intro x hx; obtain ⟨d0, d1, d2, d3, d4⟩ := HLE.out x hx; go_simp; try with_reducible rfl)
        try simp only [Act.put, List.setIfInBounds_toArray, List.set_cons_zero, List.set_cons_succ]
        refine wpD_val (i := 3) (v := ?vf3) rfl (by kernel_rfl) (by kernel_rfl) (by kernel_rfl) (by kernel_rfl) (fun _ _ _ h => h) (by rfl) ?hyf3 ?restf3
        case hyf3 => (intro x hx; obtain ⟨d0, d1, d2, d3, d4⟩ := HLE.out x hx; go_simp; try with_reducible rfl)
        try simp only [Act.put, List.setIfInBounds_toArray, List.set_cons_zero, List.set_cons_succ]
        refine wpD_val (i := 4) (v := ?vf4) rfl (by kernel_rfl) (by kernel_rfl) (by kernel_rfl) (by kernel_rfl) (fun _ _ _ h => h) (by rfl) ?hyf4 ?restf4
        case hyf4 => (intro x hx; obtain ⟨d0, d1, d2, d3, d4⟩ := HLE.out x hx; go_simp; try with_reducible rfl)
        try simp only [Act.put, List.setIfInBounds_toArray, List.set_cons_zero, List.set_cons_succ]
        refine wpD_val (i := 5) (v := ?vf5) rfl (by kernel_rfl) (by kernel_rfl) (by kernel_rfl) (by kernel_rfl) (fun _ _ _ h => h) (by rfl) ?hyf5 ?restf5
        case hyf5 => (intro x hx; obtain ⟨d0, d1, d2, d3, d4⟩ := HLE.out x hx; go_simp; try with_reducible rfl)
        try simp only [Act.put, List.setIfInBounds_toArray, List.set_cons_zero, List.set_cons_succ]
        refine wpD_call (i := 6) (v := .tuple #[.string t1, .bool p1]) (f := 10) (args := #[.agg #[.slice va nc vc], .string an]) rfl (by kernel_rfl) (by kernel_rfl) (by kernel_rfl) (by kernel_rfl) (fun _ _ _ h => h) (by rfl) ?hycf (fun x hx => HFA.out x (HCD.out.crow (HTX.out x hx) fun s hs => List.mem_cons_of_mem _ (List.mem_cons_of_mem _ (List.mem_cons_of_mem _ hs)))) ?restfc
        case hycf => (intro x hx; go_simp; try with_reducible rfl)
        try simp only [Act.put, List.setIfInBounds_toArray, List.set_cons_zero, List.set_cons_succ]
        refine wpD_val (i := 7) (v := ?vf7) rfl (by kernel_rfl) (by kernel_rfl) (by kernel_rfl) (by kernel_rfl) (fun _ _ _ h => h) (by rfl) ?hyf7 ?restf7
        case hyf7 => (intro x hx; go_simp; try with_reducible rfl)
        try simp only [Act.put, List.setIfInBounds_toArray, List.set_cons_zero, List.set_cons_succ]
        refine wpD_val (i := 8) (v := ?vf8) rfl (by kernel_rfl) (by kernel_rfl) (by kernel_rfl) (by kernel_rfl) (fun _ _ _ h => h) (by rfl) ?hyf8 ?restf8
        case hyf8 => (intro x hx; go_simp; try with_reducible rfl)
        try simp only [Act.put, List.setIfInBounds_toArray, List.set_cons_zero, List.set_cons_succ]
        refine wpD_val (i := 9) (v := ?vf9) rfl (by kernel_rfl) (by kernel_rfl) (by kernel_rfl) (by kernel_rfl) (fun _ _ _ h => h) (by rfl) ?hyf9 ?restf9
        case hyf9 => (intro x hx; go_simp; try with_reducible rfl)
        try simp only [Act.put, List.setIfInBounds_toArray, List.set_cons_zero, List.set_cons_succ]
        refine wpD_val (i := 10) (v := ?vf10) rfl (by kernel_rfl) (by kernel_rfl) (by kernel_rfl) (by kernel_rfl) (fun _ _ _ h => h) (by rfl) ?hyf10 ?restf10
        case hyf10 => (intro x hx; go_simp; try with_reducible rfl)
        try simp only [Act.put, List.setIfInBounds_toArray, List.set_cons_zero, List.set_cons_succ]
        refine wpD_val (i := 11) (v := ?vf11) rfl (by kernel_rfl) (by kernel_rfl) (by kernel_rfl) (by kernel_rfl) (fun _ _ _ h => h) (by rfl) ?hyf11 ?restf11
        case hyf11 => (intro x hx; go_simp; try with_reducible rfl)
        try simp only [Act.put, List.setIfInBounds_toArray, List.set_cons_zero, List.set_cons_succ]
        refine wpD_done (by kernel_rfl) (fun w15 hx => ?_) _
        replace H := Shut.mk (HTX.out w15 hx)
        clear HTX HLE hx
        go_upto_region 16 with fail
        have HTX : Shut (∀ x, Later w15.drew x → SL w x (bxS b13 [.slice a8 no c8] :: rwS a8 (fcs o) l8 h8 :: bxS b11 [.slice va nc vc] :: (T ++ S0))) := ⟨fun x hx => H.out.below (Below.trans (Below.drew (Below.refl _ _)) hx)⟩
        have HLE : Shut (∀ x, Later w15.drew x → x.cell? ⟨b13, 0, none⟩ = some (.slice a8 no c8) ∧ x.cell? ⟨ga, k * 4, none⟩ = some (.int .i64 kd) ∧ x.cell? ⟨ga, k * 4 + 1, none⟩ = some (.string an) ∧ x.cell? ⟨ga, k * 4 + 2, none⟩ = some (.string tx) ∧ x.cell? ⟨ga, k * 4 + 3, none⟩ = some (.string dn)) := ⟨fun x hx => ⟨((HTX.out x hx).bx 0 rfl 0 _ rfl).1, HAC.out x ((HTX.out x hx).is _ (List.mem_cons_of_mem _ (List.mem_cons_of_mem _ (List.mem_cons_of_mem _ (List.mem_append_right _ HMA.out))))).1⟩⟩
        refine wp_region_set (fun _ => false) (by kernel_rfl) ?_
        refine wpD_val (i := 0) (v := ?vg0) rfl (by kernel_rfl) (by kernel_rfl) (by kernel_rfl) (by kernel_rfl) (fun _ _ _ h => h) (by rfl) ?hyg0 ?restg0
        case hyg0 => (intro x hx; obtain ⟨d0, d1, d2, d3, d4⟩ := HLE.out x hx; go_simp; try with_reducible rfl)
        try simp only [Act.put, List.setIfInBounds_toArray, List.set_cons_zero, List.set_cons_succ]
        refine wpD_val (i := 1) (v := ?vg1) rfl (by kernel_rfl) (by kernel_rfl) (by kernel_rfl) (by kernel_rfl) (fun _ _ _ h => h) (by rfl) ?hyg1 ?restg1
        case hyg1 => (intro x hx; obtain ⟨d0, d1, d2, d3, d4⟩ := HLE.out x hx; go_simp; try with_reducible rfl)
        try simp only [Act.put, List.setIfInBounds_toArray, List.set_cons_zero, List.set_cons_succ]
        refine wpD_val (i := 2) (v := ?vg2) rfl (by kernel_rfl) (by kernel_rfl) (by kernel_rfl) (by kernel_rfl) (fun _ _ _ h => h) (by rfl) ?hyg2 ?restg2
        case hyg2 => (intro x hx; obtain ⟨d0, d1, d2, d3, d4⟩ := HLE.out x hx; go_simp; try with_reducible rfl)
        try simp only [Act.put, List.setIfInBounds_toArray, List.set_cons_zero, List.set_cons_succ]
        refine wpD_val (i := 3) (v := ?vg3) rfl (by kernel_rfl) (by kernel_rfl) (by kernel_rfl) (by kernel_rfl) (fun _ _ _ h => h) (by rfl) ?hyg3 ?restg3
        case hyg3 => (intro x hx; obtain ⟨d0, d1, d2, d3, d4⟩ := HLE.out x hx; go_simp; try with_reducible rfl)
        try simp only [Act.put, List.setIfInBounds_toArray, List.set_cons_zero, List.set_cons_succ]
        refine wpD_val (i := 4) (v := ?vg4) rfl (by kernel_rfl) (by kernel_rfl) (by kernel_rfl) (by kernel_rfl) (fun _ _ _ h => h) (by rfl) ?hyg4 ?restg4
        case hyg4 => (intro x hx; obtain ⟨d0, d1, d2, d3, d4⟩ := HLE.out x hx; go_simp; try with_reducible rfl)
        try simp only [Act.put, List.setIfInBounds_toArray, List.set_cons_zero, List.set_cons_succ]
        refine wpD_val (i := 5) (v := ?vg5) rfl (by kernel_rfl) (by kernel_rfl) (by kernel_rfl) (by kernel_rfl) (fun _ _ _ h => h) (by rfl) ?hyg5 ?restg5
        case hyg5 => (intro x hx; obtain ⟨d0, d1, d2, d3, d4⟩ := HLE.out x hx; go_simp; try with_reducible rfl)
        try simp only [Act.put, List.setIfInBounds_toArray, List.set_cons_zero, List.set_cons_succ]
        refine wpD_call (i := 6) (v := .tuple #[.string t2, .bool p2]) (f := 10) (args := #[.agg #[.slice a8 no c8], .string an]) rfl (by kernel_rfl) (by kernel_rfl) (by kernel_rfl) (by kernel_rfl) (fun _ _ _ h => h) (by rfl) ?hycg (fun x hx => HFB.out x a8 c8 (show FRw _ _ _ _ _ from (HTX.out x hx).at 1 rfl).crow) ?restgc
        case hycg => (intro x hx; go_simp; try with_reducible rfl)
        try simp only [Act.put, List.setIfInBounds_toArray, List.set_cons_zero, List.set_cons_succ]
        refine wpD_val (i := 7) (v := ?vg7) rfl (by kernel_rfl) (by kernel_rfl) (by kernel_rfl) (by kernel_rfl) (fun _ _ _ h => h) (by rfl) ?hyg7 ?restg7
        case hyg7 => (intro x hx; go_simp; try with_reducible rfl)
        try simp only [Act.put, List.setIfInBounds_toArray, List.set_cons_zero, List.set_cons_succ]
        refine wpD_val (i := 8) (v := ?vg8) rfl (by kernel_rfl) (by kernel_rfl) (by kernel_rfl) (by kernel_rfl) (fun _ _ _ h => h) (by rfl) ?hyg8 ?restg8
        case hyg8 => (intro x hx; go_simp; try with_reducible rfl)
        try simp only [Act.put, List.setIfInBounds_toArray, List.set_cons_zero, List.set_cons_succ]
        refine wpD_val (i := 9) (v := ?vg9) rfl (by kernel_rfl) (by kernel_rfl) (by kernel_rfl) (by kernel_rfl) (fun _ _ _ h => h) (by rfl) ?hyg9 ?restg9
        case hyg9 => (intro x hx; go_simp; try with_reducible rfl)
        try simp only [Act.put, List.setIfInBounds_toArray, List.set_cons_zero, List.set_cons_succ]
        refine wpD_val (i := 10) (v := ?vg10) rfl (by kernel_rfl) (by kernel_rfl) (by kernel_rfl) (by kernel_rfl) (fun _ _ _ h => h) (by rfl) ?hyg10 ?restg10
        case hyg10 => (intro x hx; go_simp; try with_reducible rfl)
        try simp only [Act.put, List.setIfInBounds_toArray, List.set_cons_zero, List.set_cons_succ]
        refine wpD_val (i := 11) (v := ?vg11) rfl (by kernel_rfl) (by kernel_rfl) (by kernel_rfl) (by kernel_rfl) (fun _ _ _ h => h) (by rfl) ?hyg11 ?restg11
        case hyg11 => (intro x hx; go_simp; try with_reducible rfl)
        try simp only [Act.put, List.setIfInBounds_toArray, List.set_cons_zero, List.set_cons_succ]
        refine wpD_done (by kernel_rfl) (fun w16 hx => ?_) _
        replace H := Shut.mk (HTX.out w16 hx)
        clear HTX HLE hx
        obtain ⟨d0, d1, d2, d3⟩ := HAC.out w16 (H.out.is _ (List.mem_cons_of_mem _ (List.mem_cons_of_mem _ (List.mem_cons_of_mem _ (List.mem_append_right _ HMA.out))))).1
        have y13 := (H.out.bx 0 rfl 0 _ rfl).1
        obtain ⟨y11, y11f⟩ := H.out.bx 2 rfl 0 _ rfl
        have HZ := Shut.mk (H.out.put 2 rfl 0 (.slice a8 no c8) (by simp))
        simp only [List.set_cons_zero, List.set_cons_succ] at HZ
        have HE := Shut.mk ((HZ.out.tail.sub (List.Sublist.cons_cons _ (List.Sublist.cons_cons _ (List.sublist_append_right T S0)))).perm (List.Perm.swap _ _ _))
        clear H HZ HAC HFA HFB d1 d3
        by_cases e1 : kd = 1
        · subst e1
          obtain ⟨rfl, rfl⟩ := HAD.out rfl
          clear HAD HDD
          go_wp2_with fail
          go_roundw
          case rel => exact ⟨k + 1, o, [rwS a8 (fcs o) l8 h8], a8, c8, by go_num, by omega, HRN, HOD, ⟨⟨l8, h8, List.mem_append_left _ (List.mem_singleton.2 rfl)⟩⟩, ⟨by rw [← HNO.out]; exact HE.out⟩⟩
          case measure => simp [intOf]; omega
        · by_cases e4 : kd = 4
          · subst e4
            obtain rfl := HDD.out rfl
            clear HAD HDD e1
            go_wp2_with fail
            go_roundw
            case rel => exact ⟨k + 1, o, [rwS a8 (fcs o) l8 h8], a8, c8, by go_num, by omega, HRN, HOD, ⟨⟨l8, h8, List.mem_append_left _ (List.mem_singleton.2 rfl)⟩⟩, ⟨by rw [← HNO.out]; exact HE.out⟩⟩
            case measure => simp [intOf]; omega
          · have e1' : (kd == 1) = false := by simpa using e1
            have e4' : (kd == 4) = false := by simpa using e4
            clear HAD HDD
            go_wp2_with fail
            go_roundw
            case rel => exact ⟨k + 1, o, [rwS a8 (fcs o) l8 h8], a8, c8, by go_num, by omega, HRN, HOD, ⟨⟨l8, h8, List.mem_append_left _ (List.mem_singleton.2 rfl)⟩⟩, ⟨by rw [← HNO.out]; exact HE.out⟩⟩
            case measure => simp [intOf]; omega
    · have hkn : k = nR := by omega
      subst hkn
      have HGS := Shut.mk (HEN.out cur HR.out)
      have HRC : Shut (∀ x, Below wr.heap.size wr x → FRow x va cur) := ⟨fun x hx => (HCD.out.crow H.out fun s hs => List.mem_cons_of_mem _ hs).stays hx⟩
      have HFL := Shut.mk HDC.out.few
      replace H := Shut.mk (H.out.sub (List.Sublist.cons_cons _ (List.sublist_append_right T S0)))
      rw [HS0.out] at H
      clear HST HEN HXA HMA HR HDC HCD HS0
      go_upto_region 20 with fail
      have HBW := Shut.mk (Below.refl wr.heap.size wr)
      have x3 := (H.out.bx 5 rfl 0 _ rfl).1
      go_wp2_with fail
      refine (HCI.out _ (show FRw _ _ _ _ _ from H.out.at 8 rfl).crow (show FRw _ _ _ _ _ from H.out.at 7 rfl).crow (show FRw _ _ _ _ _ from H.out.at 6 rfl).crow).mono ?_
      rintro e w21 ⟨v19, c19, rfl, hF, _, hb⟩
      replace H := Shut.mk (H.out.add (s := rwS v19 (fcs cs) _ _) hb hF (rwS.loc _ _ _ _) (Nat.le_refl _) (Nat.le_refl _))
      replace HBW := Shut.mk (HBW.out.trans (hb.mono HBW.out.size))
      clear hF hb x3 HCI
      obtain ⟨lv19, hlv19⟩ : ∃ q, q = wr.heap.size := ⟨_, rfl⟩
      obtain ⟨hv19, hhv19⟩ : ∃ q, q = w21.heap.size := ⟨_, rfl⟩
      rw [← hlv19, ← hhv19] at H
      clear hlv19 hhv19
      replace H := Shut.mk (H.out.new #[.slice v19 cs.length c19] 26)
      replace HBW := Shut.mk (HBW.out.alloc HBW.out.size (.cells #[.slice v19 cs.length c19] 26))
      obtain ⟨b19, hb19⟩ : ∃ q, q = w21.heap.size := ⟨_, rfl⟩
      rw [← hb19] at H
      go_upto_region 21 with fail
      refine wp_shade (fun W => SL w W [bxS b19 [.slice v19 cs.length c19], rwS v19 (fcs cs) lv19 hv19, bxS b11 [.slice va cur.length vc], bxS b9 [.slice v9 gs.length c9], rwS v9 (fcs gs) lv9 hv9, bxS b7 [.slice v7 gs.length c7], rwS v7 (fcs gs) lv7 hv7, bxS b3 [.slice b fs.length c], rwS bk (ics ks) l3 h3, rwS ba (acs xs) l2 h2, rwS b (fcs fs) l1 h1] ∧ Below wr.heap.size wr W) ⟨H.out, HBW.out⟩ ?_
      intro W22 hW
      rw [← hb19]
      replace H := Shut.mk hW.1
      replace HBW := Shut.mk hW.2
      clear hW hb19
      have x3 := (H.out.bx 7 rfl 0 _ rfl).1
      go_wp2_with fail
      refine (HCS.out _ (show FRw _ _ _ _ _ from H.out.at 10 rfl).crow (show FRw _ _ _ _ _ from H.out.at 9 rfl).crow (show FRw _ _ _ _ _ from H.out.at 8 rfl).crow).mono ?_
      rintro e w23 ⟨v21, c21, rfl, hF, _, hb⟩
      replace H := Shut.mk (H.out.add (s := rwS v21 (fcs cs) _ _) hb hF (rwS.loc _ _ _ _) (Nat.le_refl _) (Nat.le_refl _))
      replace HBW := Shut.mk (HBW.out.trans (hb.mono HBW.out.size))
      clear hF hb x3 HCS
      obtain ⟨lv21, hlv21⟩ : ∃ q, q = W22.heap.size := ⟨_, rfl⟩
      obtain ⟨hv21, hhv21⟩ : ∃ q, q = w23.heap.size := ⟨_, rfl⟩
      rw [← hlv21, ← hhv21] at H
      clear hlv21 hhv21
      replace H := Shut.mk (H.out.new #[.slice v21 cs.length c21] 26)
      replace HBW := Shut.mk (HBW.out.alloc HBW.out.size (.cells #[.slice v21 cs.length c21] 26))
      obtain ⟨b21, hb21⟩ : ∃ q, q = w23.heap.size := ⟨_, rfl⟩
      rw [← hb21] at H
      go_upto_region 22 with fail
      refine wp_shade (fun W => SL w W [bxS b21 [.slice v21 cs.length c21], rwS v21 (fcs cs) lv21 hv21, bxS b19 [.slice v19 cs.length c19], rwS v19 (fcs cs) lv19 hv19, bxS b11 [.slice va cur.length vc], bxS b9 [.slice v9 gs.length c9], rwS v9 (fcs gs) lv9 hv9, bxS b7 [.slice v7 gs.length c7], rwS v7 (fcs gs) lv7 hv7, bxS b3 [.slice b fs.length c], rwS bk (ics ks) l3 h3, rwS ba (acs xs) l2 h2, rwS b (fcs fs) l1 h1] ∧ Below wr.heap.size wr W) ⟨H.out, HBW.out⟩ ?_
      intro W24 hW
      rw [← hb21]
      replace H := Shut.mk hW.1
      replace HBW := Shut.mk hW.2
      clear hW hb21
      have x19 := (H.out.bx 2 rfl 0 _ rfl).1
      have x21 := (H.out.bx 0 rfl 0 _ rfl).1
      have hcc : (cok == cok) = true := by simp
      by_cases hz : k = 0
      · subst hz
        go_wp2_with fail
        refine (sameDisk_same v19 v21 cs c19 c21 _ (show FRw _ _ _ _ _ from H.out.at 3 rfl).crow (show FRw _ _ _ _ _ from H.out.at 1 rfl).crow HGC.out).mono ?_
        rintro e w25 ⟨rfl, hb⟩
        replace H := Shut.mk (H.out.below hb)
        clear hb x19 x21
        go_wp2_with fail
        go_ret
        exact ⟨rfl, H.out.bel⟩
      · have hz' : ((k : Int) == 0) = false := by simp; omega
        go_wp2_with fail
        refine (sameDisk_same v19 v21 cs c19 c21 _ (show FRw _ _ _ _ _ from H.out.at 3 rfl).crow (show FRw _ _ _ _ _ from H.out.at 1 rfl).crow HGC.out).mono ?_
        rintro e w25 ⟨rfl, hb⟩
        replace H := Shut.mk (H.out.below hb)
        replace HBW := Shut.mk (HBW.out.trans (hb.mono HBW.out.size))
        clear hb x19 x21
        have x11 := (H.out.bx 4 rfl 0 _ rfl).1
        have x7 := (H.out.bx 7 rfl 0 _ rfl).1
        go_wp2_with fail
        have hsd := sameDisk_same va v7 cur vc c7 w25 (HRC.out _ HBW.out) (by rw [← HGS.out]; exact (show FRw _ _ _ _ _ from H.out.at 8 rfl).crow) HFL.out
        rw [← HGS.out] at hsd
        try rw [← HGS.out]
        refine hsd.mono ?_
        rintro e w26 ⟨rfl, hb⟩
        replace H := Shut.mk (H.out.below hb)
        clear hb x11 x7 hsd
        go_wp2_with fail
        go_ret
        exact ⟨rfl, H.out.bel⟩
end Go.Proofs.Ytplcdcfhfaghiaa
