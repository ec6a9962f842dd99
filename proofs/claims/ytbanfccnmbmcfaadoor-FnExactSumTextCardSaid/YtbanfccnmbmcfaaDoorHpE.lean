/- The program's own: SumText, a unit summed anew, one that is sound, one that is spoilt. -/
import Derived.Test.YtbanfccnmbmcfaaDoorSpL
import Derived.Test.YtbanfccnmbmcfaaDoorHpC
namespace Go.Proofs.YtbanfccnmbmcfaaDoor
set_option maxRecDepth 100000
open Go.RowKit BigFrame
attribute [local go_sem ↓] Go.wp_at_zero Go.wp_at_succ

theorem implSum (t : ByteArray) (w : World) (htab : SumTab w) (hs : t.size ≤ 1048576) : Calls Tryd.prog 18 #[.string t] w fun e w' => e = .returned (.int .i64 (sumN t)) ∧ w' = w := by
  have h := sumN_low t
  have HP := Shut.mk (implSumOf t w htab hs)
  unfold u32 at HP
  rw [show (((W.sumOf t).toNat : Nat) : Int) = sumN t from rfl] at HP
  generalize sumN t = q at *
  clear htab
  go_enter Tryd.func18, Tryd.ntmps18
  go_wp2_with fail
  refine HP.out.mono ?_
  rintro e w1 ⟨rfl, rfl⟩
  go_wp2_with fail
  go_ret
  exact ⟨rfl, rfl⟩
theorem implSumText (t : ByteArray) (w : World) (htab : SumTab w) (hs : t.size ≤ 1048576) : Calls Tryd.prog 18 #[.string t] w fun e w' => e = .returned (.int .i64 (sumN t)) ∧ Below w.heap.size w w' :=
  (implSum t w htab hs).mono (by rintro e w1 ⟨rfl, rfl⟩; exact ⟨rfl, Below.refl _ _⟩)
set_option maxRecDepth 100000 in
theorem implSummed (u : UnM) (w : World) (htab : SumTab w) (hs : u.text.size ≤ 1048576) : Calls Tryd.prog 36 #[unv u] w fun e w' => e = .returned (unv (summed u)) ∧ Below w.heap.size w w' := by
  have HS0 := Shut.mk (((SL.start w).new #[.int .i64 u.group, .int .i64 u.index, .string u.text, .int .i64 u.sum] 32).new #[.int .i64 0, .int .i64 0, .string ⟨#[]⟩, .int .i64 0] 32)
  simp only [World.size_alloc] at HS0
  have HT := Shut.mk (fun (W : World) (hb : Below w.heap.size w W) => implSum u.text W (htab.stays hb) hs)
  clear htab
  obtain ⟨g, i, t, s⟩ := u
  unfold summed
  dsimp only [unv] at *
  generalize sumN t = sn at HT ⊢
  go_enter Tryd.func36, Tryd.ntmps36
  go_upto_region 1 with fail
  refine wp_shade (fun W => SL w W [bxS (w.heap.size + 1) [.int .i64 0, .int .i64 0, .string ⟨#[]⟩, .int .i64 0], bxS w.heap.size [.int .i64 g, .int .i64 i, .string t, .int .i64 s]]) HS0.out ?_
  intro W hW
  have H := Shut.mk hW
  clear HS0 hW
  have x2 := (H.out.bx 1 rfl 2 _ rfl).1
  obtain ⟨y3, y3z⟩ := H.out.bx 1 rfl 3 _ rfl
  go_upto_region 2 with (go_at_call 18; refine (HT.out _ H.out.bel).mono ?_; rintro e w1 ⟨rfl, hw1⟩; subst hw1)
  have H2 := Shut.mk (H.out.put 1 rfl 3 (.int .i64 sn) (by simp))
  simp only [List.set_cons_zero, List.set_cons_succ] at H2
  refine wp_shade (fun W => SL w W [bxS (w.heap.size + 1) [.int .i64 0, .int .i64 0, .string ⟨#[]⟩, .int .i64 0], bxS w.heap.size [.int .i64 g, .int .i64 i, .string t, .int .i64 sn]]) H2.out ?_
  intro W3 hW
  clear H H2 x2 y3 y3z
  have H := Shut.mk hW
  clear hW
  have x0 := (H.out.bx 1 rfl 0 _ rfl).1
  have x1 := (H.out.bx 1 rfl 1 _ rfl).1
  have x2 := (H.out.bx 1 rfl 2 _ rfl).1
  have x3 := (H.out.bx 1 rfl 3 _ rfl).1
  obtain ⟨r0, r0z⟩ := H.out.bx 0 rfl 0 _ rfl
  obtain ⟨r1, r1z⟩ := H.out.bx 0 rfl 1 _ rfl
  obtain ⟨r2, r2z⟩ := H.out.bx 0 rfl 2 _ rfl
  obtain ⟨r3, r3z⟩ := H.out.bx 0 rfl 3 _ rfl
  go_wp2_with fail
  have HE := Shut.mk ((((H.out.put 0 rfl 0 (.int .i64 g) (by simp)).put 0 rfl 1 (.int .i64 i) (by simp)).put 0 rfl 2 (.string t) (by simp)).put 0 rfl 3 (.int .i64 sn) (by simp))
  exact bodyPost_ret (v := .agg #[.int .i64 g, .int .i64 i, .string t, .int .i64 sn]) (by simp [results, Tryd.results36, go_sem, r0, r1, r2, r3]) rfl ⟨rfl, HE.out.bel⟩
theorem eqgUn (x y : Operand) (g i : Int) (t : ByteArray) (s s' : Int) (W : World) : Sem.run Tryd.prog (eqGuard BinOp.eql 32 x y (.agg #[.int .i64 g, .int .i64 i, .string t, .int .i64 s]) (.agg #[.int .i64 g, .int .i64 i, .string t, .int .i64 s'])) W = .ok () W := by kernel_rfl
theorem eqUn (g i : Int) (t : ByteArray) (s s' : Int) (W : World) : Sem.run Tryd.prog (binOp BinOp.eql 32 (.agg #[.int .i64 g, .int .i64 i, .string t, .int .i64 s]) (.agg #[.int .i64 g, .int .i64 i, .string t, .int .i64 s'])) W = .ok (.bool (s == s')) W := by
  rw [run_eql_struct, run_equalIn_agg W 9999 32 _ _ (by kernel_rfl) (by kernel_rfl)]
  simp [Op.eqFields, go_sem]
  by_cases h1 : s = s' <;> simp [h1]
set_option maxRecDepth 100000 in
set_option maxHeartbeats 1000000 in
theorem implSound (u : UnM) (w : World) (htab : SumTab w) (hs : u.text.size ≤ 1048576) : Calls Tryd.prog 38 #[unv u] w fun e w' => e = .returned (.bool (unSound u)) ∧ Below w.heap.size w w' := by
  have HS0 := Shut.mk ((SL.start w).new #[.int .i64 u.group, .int .i64 u.index, .string u.text, .int .i64 u.sum] 32)
  have HT := Shut.mk (fun (W : World) (hb : Below w.heap.size w W) => implSummed u W (htab.stays hb) hs)
  clear htab
  obtain ⟨g, i, t, s⟩ := u
  unfold unSound
  unfold summed at HT
  dsimp only [unv] at *
  have hek := eqUn g i t s (sumN t)
  have heg := fun x y => eqgUn x y g i t s (sumN t)
  generalize sumN t = sn at *
  generalize (s == sn) = R at *
  go_enter Tryd.func38, Tryd.ntmps38
  go_upto_region 1 with fail
  refine wp_shade (fun W => SL w W [bxS w.heap.size [.int .i64 g, .int .i64 i, .string t, .int .i64 s]]) HS0.out ?_
  intro W hW
  have H := Shut.mk hW
  clear HS0 hW
  have lq : w.heap.size < W.heap.size := (H.out.at 0 rfl).1
  have g0 : ∀ X : Grow W, X.val.cell? ⟨w.heap.size, 0, none⟩ = some (.int .i64 g) := fun X => X.cell (H.out.bx 0 rfl 0 _ rfl).1 lq
  have g1 : ∀ X : Grow W, X.val.cell? ⟨w.heap.size, 1, none⟩ = some (.int .i64 i) := fun X => X.cell (H.out.bx 0 rfl 1 _ rfl).1 lq
  have g2 : ∀ X : Grow W, X.val.cell? ⟨w.heap.size, 2, none⟩ = some (.string t) := fun X => X.cell (H.out.bx 0 rfl 2 _ rfl).1 lq
  have g3 : ∀ X : Grow W, X.val.cell? ⟨w.heap.size, 3, none⟩ = some (.int .i64 s) := fun X => X.cell (H.out.bx 0 rfl 3 _ rfl).1 lq
  have HK := Shut.mk (fun X => calls_grow (w := W) (fun W' (hb : Below W.heap.size W W') => HT.out W' (H.out.bel.trans (hb.mono H.out.bel.size))) X)
  have HGR : Shut (∀ X : Grow W, Below w.heap.size w X.val) := ⟨fun X => (H.out.below X.bel).bel⟩
  refine wp_region_grow (by kernel_rfl) (by kernel_rfl) ?_
  repeat (go_big_quiet_step (first | (go_at_call 36; with_reducible exact HK.out _)))
  refine wpQuiet_nil ?_
  rintro _ ⟨X, rfl⟩
  go_wp2_with fail
  go_ret
  exact ⟨rfl, HGR.out X⟩
set_option maxRecDepth 100000 in
set_option maxHeartbeats 1000000 in
theorem implSpoilt (u : UnM) (at9 : Int) (w : World) (hat : 0 ≤ at9) (hpos : 0 < u.text.size) :
    Calls Tryd.prog 40 #[unv u, .int .i64 at9] w fun e w' => e = .returned (unv ⟨u.group, u.index, turnAt u.text (at9.toNat % u.text.size), u.sum⟩) ∧ Below w.heap.size w w' := by
  have HS0 := Shut.mk (((SL.start w).new #[.int .i64 u.group, .int .i64 u.index, .string u.text, .int .i64 u.sum] 32).new #[.int .i64 0, .int .i64 0, .string ⟨#[]⟩, .int .i64 0] 32)
  simp only [World.size_alloc] at HS0
  obtain ⟨ug, ui, t, s⟩ := u
  dsimp only [unv] at *
  obtain ⟨T, hT⟩ : ∃ T, T = turnAt t (at9.toNat % t.size) := ⟨_, rfl⟩
  rw [← hT]
  have HTT := Shut.mk hT
  clear hT
  go_enter Tryd.func40, Tryd.ntmps40
  go_upto_region 1 with fail
  refine wp_shade (fun W => SL w W [bxS (w.heap.size + 1) [.int .i64 0, .int .i64 0, .string ⟨#[]⟩, .int .i64 0], bxS w.heap.size [.int .i64 ug, .int .i64 ui, .string t, .int .i64 s]]) HS0.out ?_
  intro W4 hW
  have H := Shut.mk hW
  clear HS0 hW
  have x2 := (H.out.bx 1 rfl 2 _ rfl).1
  obtain ⟨W5, c5, hcv, hrow5, hb5⟩ := bytes_made W4 t
  obtain ⟨bb, hbb⟩ : ∃ q, q = W4.heap.size := ⟨_, rfl⟩
  have H5 := Shut.mk (H.out.add (s := byS bb t.data.toList) hb5 (by rw [hbb]; exact hrow5) (byS.loc _ _) (by rw [hbb]; exact Nat.le_refl _) (by rw [hbb]; exact hrow5.1))
  rw [← hbb] at hcv
  clear hrow5 hb5 hbb H
  go_upto_region 2 with fail
  obtain ⟨j, hj⟩ : ∃ j : Nat, at9.tmod (t.size : Int) = (j : Int) := by
    rw [Int.tmod_eq_emod_of_nonneg hat]
    exact Int.eq_ofNat_of_zero_le (Int.emod_nonneg _ (by omega))
  have hj2 : j < t.size ∧ j = at9.toNat % t.size := by
    rw [Int.tmod_eq_emod_of_nonneg hat] at hj
    have h1 := Int.emod_lt_of_pos at9 (show (0 : Int) < (t.size : Int) by omega)
    obtain ⟨q, rfl⟩ := Int.eq_ofNat_of_zero_le hat
    simp only [Int.toNat_natCast] at *
    omega
  have HJ := Shut.mk hj2
  have hne : ¬ ((t.size : Int) = 0) := by omega
  have hL : t.data.toList.length = t.size := rfl
  obtain ⟨x, hx⟩ : ∃ o : UInt8, t.data.toList.getD j 0 = o := ⟨_, rfl⟩
  have hci := (show BRow W5 bb t.data.toList from H5.out.at 0 rfl).2 j (by have := HJ.out.1; omega)
  rw [hx] at hci
  obtain ⟨hc1, hc2⟩ := hci
  have hxo := bits_one x
  have j0 : (0 : Int) ≤ (j : Int) := by omega
  have j1 : (j : Int) < (t.size : Int) := by have := HJ.out.1; omega
  have HX := Shut.mk hx
  have H6 := Shut.mk (H5.out.turn 0 rfl (W' := W5.setCell ⟨bb, j, none⟩ (.int .u8 ((x ^^^ 1).toNat : Int))) (Turned.of_grown (gb_set' W5 bb j _) (Nat.le_refl _) (Nat.lt_succ_self _)) ((show BRow W5 bb t.data.toList from H5.out.at 0 rfl).set j (x ^^^ 1) (by have := HJ.out.1; omega)) (byS.loc _ _))
  simp only [List.set_cons_zero] at H6
  have HT : Shut ((⟨(t.data.toList.set j (x ^^^ 1)).toArray⟩ : ByteArray) = T) := ⟨by rw [HTT.out]; unfold turnAt; rw [← HJ.out.2, HX.out]⟩
  clear hj2 hx H5
  generalize x ^^^ 1 = z at *
  go_upto_region 3 with fail
  refine wp_shade (fun W => SL w W [byS bb (t.data.toList.set j z), bxS (w.heap.size + 1) [.int .i64 0, .int .i64 0, .string ⟨#[]⟩, .int .i64 0], bxS w.heap.size [.int .i64 ug, .int .i64 ui, .string t, .int .i64 s]]) (by first | exact H6.out.drew | exact H6.out) ?_
  intro W7 hW
  have H := Shut.mk hW.tail
  have hcv2 := brow_string (cap := c5) (show BRow W7 bb (t.data.toList.set j z) from hW.at 0 rfl)
  rw [List.length_set, hL, HT.out] at hcv2
  clear hW H6 hcv hc1 hc2 hxo hj x2
  obtain ⟨y2, y2z⟩ := H.out.bx 1 rfl 2 _ rfl
  have H8 := Shut.mk (H.out.put 1 rfl 2 (.string T) (by simp))
  simp only [List.set_cons_zero, List.set_cons_succ] at H8
  go_upto_region 4 with fail
  refine wp_shade (fun W => SL w W [bxS (w.heap.size + 1) [.int .i64 0, .int .i64 0, .string ⟨#[]⟩, .int .i64 0], bxS w.heap.size [.int .i64 ug, .int .i64 ui, .string T, .int .i64 s]]) H8.out ?_
  intro W8 hW
  clear H y2 y2z H8
  have H := Shut.mk hW
  clear hW
  have x0 := (H.out.bx 1 rfl 0 _ rfl).1
  have x1 := (H.out.bx 1 rfl 1 _ rfl).1
  have x2 := (H.out.bx 1 rfl 2 _ rfl).1
  have x3 := (H.out.bx 1 rfl 3 _ rfl).1
  obtain ⟨r0, r0z⟩ := H.out.bx 0 rfl 0 _ rfl
  obtain ⟨r1, r1z⟩ := H.out.bx 0 rfl 1 _ rfl
  obtain ⟨r2, r2z⟩ := H.out.bx 0 rfl 2 _ rfl
  obtain ⟨r3, r3z⟩ := H.out.bx 0 rfl 3 _ rfl
  go_wp2_with fail
  have HE := Shut.mk ((((H.out.put 0 rfl 0 (.int .i64 ug) (by simp)).put 0 rfl 1 (.int .i64 ui) (by simp)).put 0 rfl 2 (.string T) (by simp)).put 0 rfl 3 (.int .i64 s) (by simp))
  exact bodyPost_ret (v := .agg #[.int .i64 ug, .int .i64 ui, .string T, .int .i64 s]) (by simp [results, Tryd.results40, go_sem, r0, r1, r2, r3]) rfl ⟨rfl, HE.out.bel⟩
end Go.Proofs.YtbanfccnmbmcfaaDoor
