/- Texts of ours, laid one behind the other: THpC, THpD, TSpL, THpE, THpF, TUoP, TRgA, THsA, THsB, THsL. -/
import Derived.Test.YtbkimmbfepjodaaDoorPfT16
import Derived.Handy
import Derived.Laws.StructEq
set_option linter.unusedVariables false
set_option linter.unusedSimpArgs false
/- The program's own: a unit's key, keys and units that are compared, the place of a unit. -/
namespace Go.Proofs.YtbkimmbfepjodaaDoorT
set_option maxRecDepth 100000
open Go.RowKit BigFrame
attribute [local go_sem ↓] Go.wp_at_zero Go.wp_at_succ

theorem eqgKey (x y : Operand) (a b c d : Int) (W : World) : Sem.run Tw.prog (eqGuard BinOp.eql 100 x y (.agg #[.int .i64 a, .int .i64 b]) (.agg #[.int .i64 c, .int .i64 d])) W = .ok () W := by kernel_rfl
theorem eqKey (a b c d : Int) (W : World) : Sem.run Tw.prog (binOp BinOp.eql 100 (.agg #[.int .i64 a, .int .i64 b]) (.agg #[.int .i64 c, .int .i64 d])) W = .ok (.bool (a == c && b == d)) W := by
  rw [run_eql_struct, run_equalIn_agg W 9999 100 _ _ (by kernel_rfl) (by kernel_rfl)]
  simp [Op.eqFields, go_sem]
  by_cases h1 : a = c <;> by_cases h2 : b = d <;> simp [h1, h2]
set_option maxRecDepth 100000 in
theorem implKey (u : UnM) (w : World) : Calls Tw.prog 81 #[unv u] w fun e w' => e = .returned (.agg #[.int .i64 u.group, .int .i64 u.index]) ∧ Below w.heap.size w w' := by
  have HS0 := Shut.mk (((SL.start w).new #[.int .i64 u.group, .int .i64 u.index, .string u.text, .int .i64 u.sum] 75).new #[.int .i64 0, .int .i64 0] 100)
  simp only [World.size_alloc] at HS0
  go_enter Tw.func81, Tw.ntmps81
  go_upto_region 1 with fail
  refine wp_shade (fun W => SL w W [bxS (w.heap.size + 1) [.int .i64 0, .int .i64 0], bxS w.heap.size [.int .i64 u.group, .int .i64 u.index, .string u.text, .int .i64 u.sum]]) HS0.out ?_
  intro W hW
  have H := Shut.mk hW
  clear HS0 hW
  have x0 := (H.out.bx 1 rfl 0 _ rfl).1
  have x1 := (H.out.bx 1 rfl 1 _ rfl).1
  obtain ⟨r0, r0z⟩ := H.out.bx 0 rfl 0 _ rfl
  obtain ⟨r1, r1z⟩ := H.out.bx 0 rfl 1 _ rfl
  go_wp2_with fail
  have HE := Shut.mk ((H.out.put 0 rfl 0 (.int .i64 u.group) (by simp)).put 0 rfl 1 (.int .i64 u.index) (by simp))
  exact bodyPost_ret (v := .agg #[.int .i64 u.group, .int .i64 u.index]) (by simp [results, Tw.results81, go_sem, r0, r1]) rfl ⟨rfl, HE.out.bel⟩
set_option maxRecDepth 100000 in
set_option maxHeartbeats 1000000 in
theorem testKey (u : UnM) (kb : Nat) (g i : Int) (w : World) (h0 : w.cell? ⟨kb, 0, none⟩ = some (.int .i64 g)) (h1 : w.cell? ⟨kb, 1, none⟩ = some (.int .i64 i)) (hl : kb < w.heap.size) :
    Calls Tw.prog 80 #[unv u, .pointer (some ⟨kb, 0, none⟩)] w fun e w' => e = .returned (.bool (keyIs g i u)) ∧ Below w.heap.size w w' := by
  have HS0 := Shut.mk ((SL.start w).new #[.int .i64 u.group, .int .i64 u.index, .string u.text, .int .i64 u.sum] 75)
  have HQ : Shut (keyIs g i u = (u.group == g && u.index == i)) := ⟨rfl⟩
  have hek := eqKey u.group u.index g i
  have heg := fun x y => eqgKey x y u.group u.index g i
  have HBW := Shut.mk ((Below.refl w.heap.size w).alloc (Nat.le_refl _) (.cells #[.int .i64 u.group, .int .i64 u.index, .string u.text, .int .i64 u.sum] 75))
  generalize keyIs g i u = R at HQ ⊢
  rw [← HQ.out] at hek
  go_enter Tw.func80, Tw.ntmps80
  go_upto_region 1 with fail
  refine wp_shade (fun W => SL w W [bxS w.heap.size [.int .i64 u.group, .int .i64 u.index, .string u.text, .int .i64 u.sum]]) HS0.out ?_
  intro W hW
  have H := Shut.mk hW
  clear HS0 hW
  have lq : w.heap.size < W.heap.size := (H.out.at 0 rfl).1
  have lk : kb < W.heap.size := Nat.lt_of_lt_of_le hl H.out.bel.size
  have g0 : ∀ X : Grow W, X.val.cell? ⟨w.heap.size, 0, none⟩ = some (.int .i64 u.group) := fun X => X.cell (H.out.bx 0 rfl 0 _ rfl).1 lq
  have g1 : ∀ X : Grow W, X.val.cell? ⟨w.heap.size, 1, none⟩ = some (.int .i64 u.index) := fun X => X.cell (H.out.bx 0 rfl 1 _ rfl).1 lq
  have g2 : ∀ X : Grow W, X.val.cell? ⟨w.heap.size, 2, none⟩ = some (.string u.text) := fun X => X.cell (H.out.bx 0 rfl 2 _ rfl).1 lq
  have g3 : ∀ X : Grow W, X.val.cell? ⟨w.heap.size, 3, none⟩ = some (.int .i64 u.sum) := fun X => X.cell (H.out.bx 0 rfl 3 _ rfl).1 lq
  have p0 : ∀ X : Grow W, X.val.cell? ⟨kb, 0, none⟩ = some (.int .i64 g) := fun X => X.cell ((H.out.bel.cell (p := ⟨kb, 0, none⟩) hl).trans h0) lk
  have p1 : ∀ X : Grow W, X.val.cell? ⟨kb, 1, none⟩ = some (.int .i64 i) := fun X => X.cell ((H.out.bel.cell (p := ⟨kb, 1, none⟩) hl).trans h1) lk
  have HK := Shut.mk (fun X => calls_grow (w := W) (fun W' (_ : Below W.heap.size W W') => implKey u W') X)
  have HGR : Shut (∀ X : Grow W, Below w.heap.size w X.val) := ⟨fun X => (H.out.below X.bel).bel⟩
  clear h0 h1
  refine wp_region_grow (by kernel_rfl) (by kernel_rfl) ?_
  repeat (go_big_quiet_step (first | (go_at_call 81; with_reducible exact HK.out _)))
  refine wpQuiet_nil ?_
  rintro _ ⟨X, rfl⟩
  go_wp2_with fail
  go_ret
  exact ⟨rfl, HGR.out X⟩
set_option maxRecDepth 100000 in
set_option maxHeartbeats 1000000 in
theorem indexKey (us : List UnM) (a : Option Addr) (n cap kb : Nat) (g i : Int) (w : World) (hr : UnRow w a us) (hn : n = us.length) (hl : n ≤ 9000000) (h0 : w.cell? ⟨kb, 0, none⟩ = some (.int .i64 g)) (h1 : w.cell? ⟨kb, 1, none⟩ = some (.int .i64 i)) (hk : kb < w.heap.size) :
    Calls Tw.prog 79 #[.slice a n cap, .func (.func 80) #[] #[.pointer (some ⟨kb, 0, none⟩)]] w fun e w' => e = .returned (.int .i64 (atN us g i)) ∧ Below w.heap.size w w' := by
  obtain ⟨R, hR⟩ : ∃ R, R = atN us g i := ⟨_, rfl⟩
  rw [← hR]
  have HR := Shut.mk hR
  have HT := Shut.mk hr
  have HN := Shut.mk hn
  have HCC : Shut (∀ (W : World) (u : UnM), Below w.heap.size w W → Calls Tw.prog 80 #[unv u, .pointer (some ⟨kb, 0, none⟩)] W fun e w' => e = .returned (.bool (keyIs g i u)) ∧ Below W.heap.size W w') := ⟨fun W u hb => testKey u kb g i W ((hb.cell (p := ⟨kb, 0, none⟩) hk).trans h0) ((hb.cell (p := ⟨kb, 1, none⟩) hk).trans h1) (Nat.lt_of_lt_of_le hk hb.size)⟩
  clear hR hr hn h0 h1
  go_enter Tw.func79, Tw.ntmps79
  go_wp2_with fail
  go_loopw [8] (fun iv wr => ∃ k : Nat, iv = .int .i64 k ∧ k ≤ n ∧ Shut (∀ j (hj : j < us.length), j < k → (us[j].group == g && us[j].index == i) = false) ∧ Shut (Below w.heap.size w wr)) (fun iv _ => n - (intOf iv).toNat)
  case atStart => exact ⟨0, rfl, Nat.zero_le _, ⟨fun _ _ h => absurd h (Nat.not_lt_zero _)⟩, ⟨Below.refl _ _⟩⟩
  case round =>
    obtain ⟨k, rfl, hk, HG, HW⟩ := hrel
    by_cases hlt : k < n
    case pos =>
      have hku : k < us.length := by have := HN.out; omega
      have k0 : (0 : Int) ≤ (k : Int) := by omega
      have k1 : (k : Int) < (n : Int) := by omega
      obtain ⟨b, off, rfl, lb, hc⟩ := UnRow.at (HT.out.stays HW.out) (by omega)
      obtain ⟨c0, c1, c2, c3⟩ := hc k hku
      have HF : Shut ((us[k].group == g && us[k].index == i) = true → R = (k : Int)) := ⟨fun h => HR.out.trans (atN_found hku h HG.out)⟩
      have HNX : Shut ((us[k].group == g && us[k].index == i) = false → ∀ j (hj : j < us.length), j < k + 1 → (us[j].group == g && us[j].index == i) = false) := ⟨fun h j hj hjk => by
        rcases Nat.lt_succ_iff_lt_or_eq.1 hjk with e | e
        · exact HG.out j hj e
        · subst e; exact h⟩
      have HCK := Shut.mk (HCC.out wr us[k] HW.out)
      unfold keyIs at HCK
      obtain ⟨u, hu⟩ : ∃ u, u = us[k] := ⟨_, rfl⟩
      rw [← hu] at c0 c1 c2 c3 HF HNX HCK
      obtain ⟨q, hq⟩ : ∃ q, q = (u.group == g && u.index == i) := ⟨_, rfl⟩
      rw [← hq] at HF HNX HCK
      clear hc hu hq
      cases q with
      | true =>
        have HE := Shut.mk (HF.out rfl)
        go_wp2_with (go_at_call 80; refine HCK.out.mono ?_; rintro e w1 ⟨rfl, hb1⟩; have HB1 := Shut.mk (HW.out.trans (hb1.mono HW.out.size)); clear hb1)
        go_ret
        exact ⟨by rw [HE.out]; rfl, HB1.out⟩
      | false =>
        have HE := Shut.mk (HNX.out rfl)
        go_wp2_with (go_at_call 80; refine HCK.out.mono ?_; rintro e w1 ⟨rfl, hb1⟩; have HB1 := Shut.mk (HW.out.trans (hb1.mono HW.out.size)); clear hb1)
        go_roundw
        case rel => exact ⟨k + 1, by go_num, by omega, HE, HB1⟩
        case measure => simp [intOf]; omega
    case neg =>
      have k1 : ¬ (k : Int) < (n : Int) := by omega
      have HE : Shut (R = -1) := ⟨HR.out.trans (atN_none fun j hj => HG.out j hj (by have := HN.out; omega))⟩
      go_wp2_with fail
      go_ret
      exact ⟨by rw [HE.out]; rfl, HW.out⟩
set_option maxRecDepth 100000 in
set_option maxHeartbeats 1000000 in
theorem implAt (H : HM) (a : Option Addr) (cap : Nat) (g i : Int) (w : World) (hr : UnRow w a H.us) (hl : H.us.length ≤ 9000000) :
    Calls Tw.prog 66 #[hov H a cap, .agg #[.int .i64 g, .int .i64 i]] w fun e w' => e = .returned (.int .i64 (atN H.us g i)) ∧ Below w.heap.size w w' := by
  have HS0 := Shut.mk (((SL.start w).new #[.int .i64 H.id, .bool H.up, .slice a H.us.length cap] 43).new #[.int .i64 g, .int .i64 i] 100)
  simp only [World.size_alloc] at HS0
  have HR := Shut.mk hr
  clear hr
  obtain ⟨id, up, us⟩ := H
  dsimp only [hov] at *
  have HIX : Shut (∀ W, SL w W [bxS (w.heap.size + 1) [.int .i64 g, .int .i64 i], bxS w.heap.size [.int .i64 id, .bool up, .slice a us.length cap]] → Calls Tw.prog 79 #[.slice a us.length cap, .func (.func 80) #[] #[.pointer (some ⟨w.heap.size + 1, 0, none⟩)]] W fun e w' => e = .returned (.int .i64 (atN us g i)) ∧ Below W.heap.size W w') := ⟨fun W h => indexKey us a us.length cap (w.heap.size + 1) g i W (HR.out.stays h.bel) rfl hl (h.bx 0 rfl 0 _ rfl).1 (h.bx 0 rfl 1 _ rfl).1 (h.at 0 rfl).1⟩
  generalize atN us g i = R at HIX ⊢
  generalize us.length = n at HS0 HIX ⊢
  go_enter Tw.func66, Tw.ntmps66
  go_upto_region 1 with fail
  refine wp_shade (fun W => SL w W [bxS (w.heap.size + 1) [.int .i64 g, .int .i64 i], bxS w.heap.size [.int .i64 id, .bool up, .slice a n cap]]) HS0.out ?_
  intro W hW
  have H := Shut.mk hW
  clear HS0 hW
  have x2 := (H.out.bx 1 rfl 2 _ rfl).1
  go_wp2_with (go_at_call 79; refine (HIX.out _ H.out).mono ?_; rintro e w1 ⟨rfl, hb1⟩; have HB1 := Shut.mk (H.out.below hb1).bel; clear hb1)
  go_ret
  exact ⟨rfl, HB1.out⟩
end Go.Proofs.YtbkimmbfepjodaaDoorT
/- The library's slices.Delete of one unit in a row of one's own; the program's own DropUnit (written by gen/mkhpd.py). -/
namespace Go.Proofs.YtbkimmbfepjodaaDoorT
set_option maxRecDepth 100000
open Go.RowKit BigFrame
attribute [local go_sem ↓] Go.wp_at_zero Go.wp_at_succ

end Go.Proofs.YtbkimmbfepjodaaDoorT
/- The model's Spoil (written by gen/mkspoil.py). -/
namespace Go.Proofs.YtbkimmbfepjodaaDoorT
set_option maxRecDepth 100000
open Go.RowKit BigFrame
attribute [local go_sem ↓] Go.wp_at_zero Go.wp_at_succ

end Go.Proofs.YtbkimmbfepjodaaDoorT
/- The program's own: SumText, a unit summed anew, one that is sound, one that is spoilt. -/
namespace Go.Proofs.YtbkimmbfepjodaaDoorT
set_option maxRecDepth 100000
open Go.RowKit BigFrame
attribute [local go_sem ↓] Go.wp_at_zero Go.wp_at_succ

theorem implSum (t : ByteArray) (w : World) (htab : SumTab w) (hs : t.size ≤ 1048576) : Calls Tw.prog 89 #[.string t] w fun e w' => e = .returned (.int .i64 (sumN t)) ∧ w' = w := by
  have h := sumN_low t
  have HP := Shut.mk (implSumOf t w htab hs)
  unfold u32 at HP
  rw [show (((W.sumOf t).toNat : Nat) : Int) = sumN t from rfl] at HP
  generalize sumN t = q at *
  clear htab
  go_enter Tw.func89, Tw.ntmps89
  go_wp2_with fail
  refine HP.out.mono ?_
  rintro e w1 ⟨rfl, rfl⟩
  go_wp2_with fail
  go_ret
  exact ⟨rfl, rfl⟩
set_option maxRecDepth 100000 in
theorem implSummed (u : UnM) (w : World) (htab : SumTab w) (hs : u.text.size ≤ 1048576) : Calls Tw.prog 82 #[unv u] w fun e w' => e = .returned (unv (summed u)) ∧ Below w.heap.size w w' := by
  have HS0 := Shut.mk (((SL.start w).new #[.int .i64 u.group, .int .i64 u.index, .string u.text, .int .i64 u.sum] 75).new #[.int .i64 0, .int .i64 0, .string ⟨#[]⟩, .int .i64 0] 75)
  simp only [World.size_alloc] at HS0
  have HT := Shut.mk (fun (W : World) (hb : Below w.heap.size w W) => implSum u.text W (htab.stays hb) hs)
  clear htab
  obtain ⟨g, i, t, s⟩ := u
  unfold summed
  dsimp only [unv] at *
  generalize sumN t = sn at HT ⊢
  go_enter Tw.func82, Tw.ntmps82
  go_upto_region 1 with fail
  refine wp_shade (fun W => SL w W [bxS (w.heap.size + 1) [.int .i64 0, .int .i64 0, .string ⟨#[]⟩, .int .i64 0], bxS w.heap.size [.int .i64 g, .int .i64 i, .string t, .int .i64 s]]) HS0.out ?_
  intro W hW
  have H := Shut.mk hW
  clear HS0 hW
  have x2 := (H.out.bx 1 rfl 2 _ rfl).1
  obtain ⟨y3, y3z⟩ := H.out.bx 1 rfl 3 _ rfl
  go_upto_region 2 with (go_at_call 89; refine (HT.out _ H.out.bel).mono ?_; rintro e w1 ⟨rfl, hw1⟩; subst hw1)
  have H2 := Shut.mk (H.out.put 1 rfl 3 (.int .i64 sn) (by simp))
  simp only [List.set_cons_zero, List.set_cons_succ] at H2
  refine wp_shade (fun W => SL w W [bxS (w.heap.size + 1) [.int .i64 0, .int .i64 0, .string ⟨#[]⟩, .int .i64 0], bxS w.heap.size [.int .i64 g, .int .i64 i, .string t, .int .i64 sn]]) H2.out ?_
  intro W3 hW
  clear H H2 x2 y3 y3z
  have H := Shut.mk hW
  clear hW
  have x0 := (H.out.bx 1 rfl 0 _ rfl).1
  have x1 := (H.out.bx 1 rfl 1 _ rfl).1
  have x2 := (H.out.bx 1 rfl 2 _ rfl).1
  have x3 := (H.out.bx 1 rfl 3 _ rfl).1
  obtain ⟨r0, r0z⟩ := H.out.bx 0 rfl 0 _ rfl
  obtain ⟨r1, r1z⟩ := H.out.bx 0 rfl 1 _ rfl
  obtain ⟨r2, r2z⟩ := H.out.bx 0 rfl 2 _ rfl
  obtain ⟨r3, r3z⟩ := H.out.bx 0 rfl 3 _ rfl
  go_wp2_with fail
  have HE := Shut.mk ((((H.out.put 0 rfl 0 (.int .i64 g) (by simp)).put 0 rfl 1 (.int .i64 i) (by simp)).put 0 rfl 2 (.string t) (by simp)).put 0 rfl 3 (.int .i64 sn) (by simp))
  exact bodyPost_ret (v := .agg #[.int .i64 g, .int .i64 i, .string t, .int .i64 sn]) (by simp [results, Tw.results82, go_sem, r0, r1, r2, r3]) rfl ⟨rfl, HE.out.bel⟩
theorem eqgUn (x y : Operand) (g i : Int) (t : ByteArray) (s s' : Int) (W : World) : Sem.run Tw.prog (eqGuard BinOp.eql 75 x y (.agg #[.int .i64 g, .int .i64 i, .string t, .int .i64 s]) (.agg #[.int .i64 g, .int .i64 i, .string t, .int .i64 s'])) W = .ok () W := by kernel_rfl
theorem eqUn (g i : Int) (t : ByteArray) (s s' : Int) (W : World) : Sem.run Tw.prog (binOp BinOp.eql 75 (.agg #[.int .i64 g, .int .i64 i, .string t, .int .i64 s]) (.agg #[.int .i64 g, .int .i64 i, .string t, .int .i64 s'])) W = .ok (.bool (s == s')) W := by
  rw [run_eql_struct, run_equalIn_agg W 9999 75 _ _ (by kernel_rfl) (by kernel_rfl)]
  simp [Op.eqFields, go_sem]
  by_cases h1 : s = s' <;> simp [h1]
set_option maxRecDepth 100000 in
set_option maxHeartbeats 1000000 in
theorem implSound (u : UnM) (w : World) (htab : SumTab w) (hs : u.text.size ≤ 1048576) : Calls Tw.prog 67 #[unv u] w fun e w' => e = .returned (.bool (unSound u)) ∧ Below w.heap.size w w' := by
  have HS0 := Shut.mk ((SL.start w).new #[.int .i64 u.group, .int .i64 u.index, .string u.text, .int .i64 u.sum] 75)
  have HT := Shut.mk (fun (W : World) (hb : Below w.heap.size w W) => implSummed u W (htab.stays hb) hs)
  clear htab
  obtain ⟨g, i, t, s⟩ := u
  unfold unSound
  unfold summed at HT
  dsimp only [unv] at *
  have hek := eqUn g i t s (sumN t)
  have heg := fun x y => eqgUn x y g i t s (sumN t)
  generalize sumN t = sn at *
  generalize (s == sn) = R at *
  go_enter Tw.func67, Tw.ntmps67
  go_upto_region 1 with fail
  refine wp_shade (fun W => SL w W [bxS w.heap.size [.int .i64 g, .int .i64 i, .string t, .int .i64 s]]) HS0.out ?_
  intro W hW
  have H := Shut.mk hW
  clear HS0 hW
  have lq : w.heap.size < W.heap.size := (H.out.at 0 rfl).1
  have g0 : ∀ X : Grow W, X.val.cell? ⟨w.heap.size, 0, none⟩ = some (.int .i64 g) := fun X => X.cell (H.out.bx 0 rfl 0 _ rfl).1 lq
  have g1 : ∀ X : Grow W, X.val.cell? ⟨w.heap.size, 1, none⟩ = some (.int .i64 i) := fun X => X.cell (H.out.bx 0 rfl 1 _ rfl).1 lq
  have g2 : ∀ X : Grow W, X.val.cell? ⟨w.heap.size, 2, none⟩ = some (.string t) := fun X => X.cell (H.out.bx 0 rfl 2 _ rfl).1 lq
  have g3 : ∀ X : Grow W, X.val.cell? ⟨w.heap.size, 3, none⟩ = some (.int .i64 s) := fun X => X.cell (H.out.bx 0 rfl 3 _ rfl).1 lq
  have HK := Shut.mk (fun X => calls_grow (w := W) (fun W' (hb : Below W.heap.size W W') => HT.out W' (H.out.bel.trans (hb.mono H.out.bel.size))) X)
  have HGR : Shut (∀ X : Grow W, Below w.heap.size w X.val) := ⟨fun X => (H.out.below X.bel).bel⟩
  refine wp_region_grow (by kernel_rfl) (by kernel_rfl) ?_
  repeat (go_big_quiet_step (first | (go_at_call 82; with_reducible exact HK.out _)))
  refine wpQuiet_nil ?_
  rintro _ ⟨X, rfl⟩
  go_wp2_with fail
  go_ret
  exact ⟨rfl, HGR.out X⟩
end Go.Proofs.YtbkimmbfepjodaaDoorT
/- The program's own GetUnit and Spoil (written by gen/mkhpf.py). -/
namespace Go.Proofs.YtbkimmbfepjodaaDoorT
set_option maxRecDepth 100000
open Go.RowKit BigFrame
attribute [local go_sem ↓] Go.wp_at_zero Go.wp_at_succ

set_option maxRecDepth 100000 in
set_option maxHeartbeats 2000000 in
theorem implGetUnit (H : HM) (a : Option Addr) (cap : Nat) (g i : Int) (w : World) (htab : SumTab w) (hr : UnRow w a H.us) (hl : H.us.length ≤ 1048576) (hz : unSum H.us ≤ 1048576) :
    Calls Tw.prog 50 #[hov H a cap, .int .i64 g, .int .i64 i] w fun e w' => e = .returned (.tuple #[.string (getX H g i).1, .bool (getX H g i).2]) ∧ Below w.heap.size w w' := by
  have HS0 := Shut.mk ((SL.start w).new #[.int .i64 H.id, .bool H.up, .slice a H.us.length cap] 43)
  have HR := Shut.mk hr
  have HA := Shut.mk (fun (W : World) (hb : Below w.heap.size w W) => implAt H a cap g i W (hr.stays hb) (by omega))
  have HSD : Shut (∀ (W : World) (u : UnM), u ∈ H.us → Below w.heap.size w W → Calls Tw.prog 67 #[unv u] W fun e w' => e = .returned (.bool (unSound u)) ∧ Below W.heap.size W w') := ⟨fun W u hu hb => implSound u W (htab.stays hb) (by have := unSum_mem hu; omega)⟩
  have HZ : Shut (∀ u ∈ H.us, u.text.size ≤ 1048576) := ⟨fun u hu => by have := unSum_mem hu; omega⟩
  clear hr hz htab
  obtain ⟨id, up, us⟩ := H
  obtain ⟨R, hR⟩ : ∃ R, R = getX ⟨id, up, us⟩ g i := ⟨_, rfl⟩
  rw [← hR]
  obtain ⟨t0, b0⟩ := R
  have HQ := Shut.mk hR
  clear hR
  show Calls Tw.prog 50 #[.agg #[.int .i64 id, .bool up, .slice a us.length cap], .int .i64 g, .int .i64 i] w fun e w' => e = .returned (.tuple #[.string t0, .bool b0]) ∧ Below w.heap.size w w'
  dsimp only [hov] at *
  obtain ⟨n, hn⟩ : ∃ n, n = us.length := ⟨_, rfl⟩
  have HN := Shut.mk hn
  rw [← hn] at HS0 HA hl ⊢
  clear hn
  obtain ⟨ki, hki⟩ : ∃ q, q = atN us g i := ⟨_, rfl⟩
  rw [← hki] at HA
  have HK := Shut.mk hki
  clear hki
  go_enter Tw.func50, Tw.ntmps50
  go_upto_region 1 with fail
  refine wp_shade (fun W => SL w W [bxS w.heap.size [.int .i64 id, .bool up, .slice a n cap]]) HS0.out ?_
  intro W0 hW
  have HW := Shut.mk hW
  clear HS0 hW
  have x0 := (HW.out.bx 0 rfl 0 _ rfl).1
  have x1 := (HW.out.bx 0 rfl 1 _ rfl).1
  have x2 := (HW.out.bx 0 rfl 2 _ rfl).1
  go_upto_region 2 with (go_at_call 66; refine (HA.out _ HW.out.bel).mono ?_; rintro e w1 ⟨rfl, hb⟩; replace HW := Shut.mk (HW.out.below hb); clear hb x0 x1 x2)
  have x1 := (HW.out.bx 0 rfl 1 _ rfl).1
  have x2 := (HW.out.bx 0 rfl 2 _ rfl).1
  cases hup : up with
  | false =>
    have HE : Shut ((t0, b0) = ((⟨#[]⟩ : ByteArray), false)) := ⟨by rw [HQ.out]; unfold getX; rw [hup]; simp⟩
    rw [hup] at x1
    go_wp2_with fail
    go_ret2
    have e1 := HE.out
    simp only [Prod.mk.injEq] at e1
    exact ⟨by rw [e1.1, e1.2]; rfl, HW.out.bel⟩
  | true =>
    rw [hup] at x1 HQ
    by_cases hf : unIdx us g i < us.length
    case neg =>
      have hki : ki = -1 := by rw [HK.out, idx_no hf]
      have HE : Shut ((t0, b0) = ((⟨#[]⟩ : ByteArray), false)) := ⟨by rw [HQ.out]; unfold getX; simp [hf]⟩
      subst hki
      clear hf
      go_wp2_with fail
      go_ret2
      have e1 := HE.out
      simp only [Prod.mk.injEq] at e1
      exact ⟨by rw [e1.1, e1.2]; rfl, HW.out.bel⟩
    obtain ⟨k, hk⟩ : ∃ k, k = unIdx us g i := ⟨_, rfl⟩
    have hki : ki = (k : Int) := by rw [HK.out, idx_lt hf, hk]
    rw [← hk] at hf
    obtain ⟨b, off, u, rfl, hu, lb, hc⟩ := un_at HR.out HW.out.bel hf
    have HE : Shut ((t0, b0) = if unSound u then (u.text, true) else ((⟨#[]⟩ : ByteArray), false)) := ⟨by
      rw [HQ.out]; unfold getX; dsimp only; rw [← hk, getD_un us k hf, ← hu]; simp [hf]⟩
    have HSU := Shut.mk (fun (W : World) (hb : Below w.heap.size w W) => HSD.out W u (by rw [hu]; exact List.getElem_mem hf) hb)
    have HCL : Shut (∀ W, Calls Tw.prog 68 #[.string u.text] W fun e w' => e = .returned (.string u.text) ∧ Below W.heap.size W w') := ⟨fun W => implClone u.text W (by have := HZ.out u (by rw [hu]; exact List.getElem_mem hf); omega)⟩
    generalize unSound u = snd at HE HSU
    subst hki
    have k0 : (0 : Int) ≤ (k : Int) := by omega
    have k1 : (k : Int) < (n : Int) := by have := HN.out; omega
    have k2 : decide ((k : Int) < 0) = false := by simp
    have k3 : ¬ ((k : Int) < 0) := by omega
    obtain ⟨p0, p1, p2, p3⟩ := hc w1 (Below.refl _ _)
    have HC := Shut.mk hc
    clear hc hk hu hf
    cases snd with
    | false =>
      go_wp2_with (go_at_call 67; refine (HSU.out _ HW.out.bel).mono ?_; rintro e w2 ⟨rfl, hb⟩; replace HW := Shut.mk (HW.out.below hb); clear hb)
      go_ret2
      have e1 := HE.out
      simp only [Bool.false_eq_true, if_false, Prod.mk.injEq] at e1
      exact ⟨by rw [e1.1, e1.2]; rfl, HW.out.bel⟩
    | true =>
      go_upto_region 4 with (go_at_call 67; refine (HSU.out _ HW.out.bel).mono ?_; rintro e w2 ⟨rfl, hb⟩; replace HW := Shut.mk (HW.out.below hb); have HC2 := Shut.mk (HC.out w2 hb); clear hb p0 p1 p2 p3 x1 x2)
      have x2 := (HW.out.bx 0 rfl 2 _ rfl).1
      obtain ⟨p0, p1, p2, p3⟩ := HC2.out
      go_wp2_with (go_at_call 68; refine (HCL.out _).mono ?_; rintro e w3 ⟨rfl, hb⟩; replace HW := Shut.mk (HW.out.below hb); clear hb)
      go_ret2
      have e1 := HE.out
      simp only [if_true, Prod.mk.injEq] at e1
      exact ⟨by rw [e1.1, e1.2]; rfl, HW.out.bel⟩
end Go.Proofs.YtbkimmbfepjodaaDoorT
/- The program's own UnitsOf and LeftOf. -/
namespace Go.Proofs.YtbkimmbfepjodaaDoorT
set_option maxRecDepth 100000
open Go.RowKit BigFrame
attribute [local go_sem ↓] Go.wp_at_zero Go.wp_at_succ

theorem implSchU (s : Int) (w : World) : Calls Tw.prog 28 #[.int .i64 s] w fun e w' => SchB s w e w' := by
  cases h : schOk s with
  | true =>
    obtain rfl | rfl | rfl := sch_cases h
    all_goals
      clear h
      go_enter Tw.func28, Tw.ntmps28
      go_wp2_with fail
      go_ret3
      exact ⟨rfl, Below.refl _ _⟩
  | false =>
    obtain ⟨h1, h2, h3⟩ := sch_no h
    obtain ⟨e1, e2⟩ := sch_zero h
    unfold SchB
    rw [e1, e2, h]
    clear h e1 e2
    go_enter Tw.func28, Tw.ntmps28
    go_wp2_with fail
    go_ret3
    exact ⟨rfl, Below.refl _ _⟩
set_option maxRecDepth 100000 in
set_option maxHeartbeats 2000000 in
theorem implFirst (a : Option Addr) (rs : List HoR) (cap : Nat) (g i : Int) (w : World) (htab : SumTab w) (hr : HsRow w a rs) (hl : rs.length ≤ 1048576) (hz : hsSum (hms rs) ≤ 1048576) :
    Calls Tw.prog 29 #[.slice a rs.length cap, .int .i64 g, .int .i64 i] w fun e w' => e = .returned (.tuple #[.string (firstU (hms rs) g i).1, .bool (firstU (hms rs) g i).2]) ∧ Below w.heap.size w w' := by
  obtain ⟨n, hn⟩ : ∃ n, n = rs.length := ⟨_, rfl⟩
  have HN := Shut.mk hn
  have HR := Shut.mk (And.intro hr (And.intro hz htab))
  obtain ⟨F, hF⟩ : ∃ q, q = firstU (hms rs) g i := ⟨_, rfl⟩
  have HF := Shut.mk hF
  rw [← hn, ← hF]
  rw [← hn] at hl
  clear hr hz htab hn hF
  go_enter Tw.func29, Tw.ntmps29
  go_wp2_with fail
  go_loopw [14] (fun j9 wr => ∃ (j : Nat), j9 = .int .i64 (j : Nat) ∧ j ≤ n ∧ Shut ((firstU ((hms rs).take j) g i).2 = false ∧ Below w.heap.size w wr)) (fun j9 _ => n - (intOf j9).toNat)
  case atStart => exact ⟨0, rfl, Nat.zero_le _, ⟨by simp [firstU], Below.refl _ _⟩⟩
  case round =>
    obtain ⟨j, rfl, hj, HW⟩ := hrel
    by_cases hlt : j < n
    case neg =>
      obtain rfl : n = j := by omega
      have HE : Shut (F = (⟨#[]⟩, false)) := ⟨by
        have q := firstU_none HW.out.1
        rw [List.take_of_length_le (by rw [hms_len, HN.out]; exact Nat.le_refl _)] at q
        rw [HF.out, q]⟩
      go_wp2_with fail
      go_ret2
      exact ⟨by rw [HE.out]; rfl, HW.out.2⟩
    have hjr : j < rs.length := by rw [← HN.out]; exact hlt
    have j0 : (0 : Int) ≤ (j : Int) := by omega
    have j1 : (j : Int) < (n : Int) := by omega
    have HNX := Shut.mk (firstU_take (hs := hms rs) (k := j) (by rw [hms_len]; exact hjr) g i HW.out.1)
    obtain ⟨b, off, r, rfl, hre, lb, hc⟩ := hs_at HR.out.1 HW.out.2 hjr
    obtain ⟨d0, d1, d2, d3⟩ := hc wr (Below.refl _ _)
    have hme : (hms rs)[j]'(by rw [hms_len]; exact hjr) = r.h := by rw [hre]; simp [hms]
    rw [hme] at HNX
    have hsm := hsSum_mem (hs := hms rs) (h := r.h) (by rw [← hme]; exact List.getElem_mem _)
    have hsz := HR.out.2.1
    have HGU := Shut.mk (fun W (hW : Below wr.heap.size wr W) => implGetUnit r.h r.loc r.cap g i W (HR.out.2.2.stays (HW.out.2.trans (hW.mono HW.out.2.size))) (d3.stays hW) (by omega) (by omega))
    obtain ⟨⟨rid, rup, rus⟩, rl, rc⟩ := r
    dsimp only [hov] at *
    obtain ⟨q, hq⟩ : ∃ q, q = rus.length := ⟨_, rfl⟩
    rw [← hq] at d2 HGU
    cases hgb : (getX ⟨rid, rup, rus⟩ g i).2 with
    | false =>
      rw [hgb] at HGU
      rw [← HNX.out] at hgb
      have HX := Shut.mk hgb
      generalize (getX ⟨rid, rup, rus⟩ g i).1 = gt at HGU
      clear hc hre hme hq hsm hsz d3 HNX hgb
      go_wp2_with (go_at_call 50; refine (HGU.out _ ((Below.refl _ _).alloc (Nat.le_refl _) _)).mono ?_; rintro e w2 ⟨rfl, hb2⟩; have HB2 := Shut.mk (HW.out.2.trans ((((Below.refl wr.heap.size wr).alloc (Nat.le_refl _) _).trans (hb2.mono (by simp))).mono HW.out.2.size)); clear hb2)
      go_roundw
      case rel => exact ⟨j + 1, by go_num, by omega, ⟨HX.out, HB2.out⟩⟩
      case measure => simp [intOf]; omega
    | true =>
      rw [hgb] at HGU
      have HX : Shut (F = getX ⟨rid, rup, rus⟩ g i) := ⟨by rw [HF.out, ← HNX.out]; exact firstU_stop g i (by rw [HNX.out]; exact hgb)⟩
      have HX2 : Shut (F.2 = true) := ⟨by rw [HX.out]; exact hgb⟩
      rw [← HX.out] at HGU
      obtain ⟨gt, hgt⟩ : ∃ q, q = F.1 := ⟨_, rfl⟩
      rw [← hgt] at HGU
      have HGT := Shut.mk hgt
      clear hc hre hme hq hsm hsz d3 HNX hgb hgt
      go_wp2_with (go_at_call 50; refine (HGU.out _ ((Below.refl _ _).alloc (Nat.le_refl _) _)).mono ?_; rintro e w2 ⟨rfl, hb2⟩; have HB2 := Shut.mk (HW.out.2.trans ((((Below.refl wr.heap.size wr).alloc (Nat.le_refl _) _).trans (hb2.mono (by simp))).mono HW.out.2.size)); clear hb2)
      go_ret2
      exact ⟨by rw [HX2.out, ← HGT.out]; rfl, HB2.out⟩
theorem own_any9 {W : World} {B ty sz n : Nat} {v : Value} {L : List Value} (h : W.ownsRow B ty sz v n L) : ∃ a c, v = .slice a n c := by
  rcases h.2 with ⟨rfl, h0⟩ | ⟨g, cap, cur, e, _⟩
  · exact ⟨none, 0, by rw [h0]⟩
  · exact ⟨_, _, e⟩
/-- Two rows of one's own that are made longer in turn. -/
structure TwoR (w W : World) (v u : Value) (kt kb : Nat) (T : List ByteArray) (Bs : List Bool) : Prop where
  bel : Below w.heap.size w W
  t : W.ownsRow w.heap.size 9 1 v kt (tv T)
  b : W.ownsRow w.heap.size 4 1 u kb (bcs Bs)
  ne : ∀ q, v.ownBlock = some q → u.ownBlock ≠ some q
theorem TwoR.below {w W W' : World} {v u : Value} {kt kb : Nat} {T : List ByteArray} {Bs : List Bool} (h : TwoR w W v u kt kb T Bs) (hb : Below W.heap.size W W') : TwoR w W' v u kt kb T Bs :=
  ⟨h.bel.trans (hb.mono h.bel.size), h.t.kept (row := none) ⟨hb.os, hb.tape, hb.output, hb.size, fun k hk _ => hb.block k hk⟩ (Classical.em _), h.b.kept (row := none) ⟨hb.os, hb.tape, hb.output, hb.size, fun k hk _ => hb.block k hk⟩ (Classical.em _), h.ne⟩
theorem own_neU {W : World} {B ty sz n : Nat} {v : Value} {L : List Value} (_ : W.ownsRow B ty sz v n L) {row : Option Nat} (hr : ∀ q, v.ownBlock = some q → row ≠ some q) : v.ownBlock = none ∨ v.ownBlock ≠ row := by
  cases e : v.ownBlock with
  | none => exact .inl rfl
  | some q => exact .inr fun e2 => hr q e e2.symm
theorem TwoR.moreT {w W Wa W' : World} {v u v' : Value} {kt kb k' : Nat} {T T' : List ByteArray} {Bs : List Bool} (h : TwoR w W v u kt kb T Bs) (hb : Below W.heap.size W Wa) (ho : W'.ownsRow w.heap.size 9 1 v' k' (tv T')) (hg : Wa.grownBy W' v.ownBlock) (hat : v'.ownBlock = v.ownBlock ∨ v'.ownBlock = some Wa.heap.size) : TwoR w W' v' u k' kb T' Bs := by
  have k := h.below hb
  refine ⟨k.bel.grown hg k.bel.size (fun q e => (k.t.lt q e).1), ho, k.b.kept hg (own_neU k.b fun q e e2 => h.ne q e2 e), fun q e e2 => ?_⟩
  rcases hat with q1 | q1
  · rw [q1] at e; exact h.ne q e e2
  · rw [q1] at e
    have := (k.b.lt q e2).2
    have : Wa.heap.size = q := by simpa using e
    omega
theorem TwoR.moreB {w W Wa W' : World} {v u u' : Value} {kt kb k' : Nat} {T : List ByteArray} {Bs B' : List Bool} (h : TwoR w W v u kt kb T Bs) (hb : Below W.heap.size W Wa) (ho : W'.ownsRow w.heap.size 4 1 u' k' (bcs B')) (hg : Wa.grownBy W' u.ownBlock) (hat : u'.ownBlock = u.ownBlock ∨ u'.ownBlock = some Wa.heap.size) : TwoR w W' v u' kt k' T B' := by
  have k := h.below hb
  refine ⟨k.bel.grown hg k.bel.size (fun q e => (k.b.lt q e).1), k.t.kept hg (own_neU k.t fun q e e2 => h.ne q e e2), ho, fun q e e2 => ?_⟩
  rcases hat with q1 | q1
  · rw [q1] at e2; exact h.ne q e e2
  · rw [q1] at e2
    have := (k.t.lt q e).2
    have : Wa.heap.size = q := by simpa using e2
    omega
theorem TwoR.post {w W : World} {a b : Option Addr} {n c d : Nat} {T : List ByteArray} {Bs : List Bool} (h : TwoR w W (.slice a n c) (.slice b n d) n n T Bs) (hT : T.length = n) (hB : Bs.length = n) : UPost T Bs w (.returned (.tuple #[.slice a n c, .slice b n d])) W := by
  obtain ⟨f1, c1⟩ := FRw.of_own h.t
  obtain ⟨f2, _⟩ := FRw.of_own h.b
  refine upost_mk hT hB c1 h.bel ?_
  rcases f1 with ⟨_, e⟩ | ⟨g, e, q1, q2, q3⟩
  · left
    have := congrArg List.length e
    rw [tv_len, hT] at this
    exact this
  · rcases f2 with ⟨_, e'⟩ | ⟨g', e', q1', q2', q3'⟩
    · left
      have := congrArg List.length e'
      rw [bcs_len, hB] at this
      exact this
    · exact .inr ⟨g, g', e, e', fun q => h.ne g (by rw [e]; rfl) (by rw [e', q]; rfl), q1, q1', q3, q3'⟩
theorem infoStrP : (Tw.prog.info? 9).map (fun i => (i.zero, i.size, i.bytes)) = some (some (.string ⟨#[]⟩), 1, 16) := by kernel_rfl
set_option maxRecDepth 100000 in
set_option maxHeartbeats 4000000 in
theorem implUnitsOf (a : Option Addr) (rs : List HoR) (cap : Nat) (s g : Int) (w : World) (htab : SumTab w) (hr : HsRow w a rs) (hl : rs.length ≤ 1048576) (hz : hsSum (hms rs) ≤ 1048576) :
    Calls Tw.prog 14 #[.slice a rs.length cap, .int .i64 s, .int .i64 g] w fun e w' => UPost (unitsT (hms rs) s g) (unitsB (hms rs) s g) w e w' := by
  obtain ⟨i0, hi, hz0, hz1, hz2⟩ := info_parts infoStrP
  obtain ⟨i1, hi', hy0, hy1, hy2⟩ := info_parts infoBoolG
  have HSC := Shut.mk (fun W => implSchU s W)
  have HFI : Shut (∀ (k : Nat) W, Below w.heap.size w W → Calls Tw.prog 29 #[.slice a rs.length cap, .int .i64 g, .int .i64 (k : Nat)] W fun e w' => e = .returned (.tuple #[.string (firstU (hms rs) g (k : Nat)).1, .bool (firstU (hms rs) g (k : Nat)).2]) ∧ Below W.heap.size W w') := ⟨fun k W hW => implFirst a rs cap g (k : Nat) W (htab.stays hW) (hr.stays hW) hl hz⟩
  obtain ⟨T, hT⟩ : ∃ q, q = unitsT (hms rs) s g := ⟨_, rfl⟩
  obtain ⟨Bs, hBs⟩ : ∃ q, q = unitsB (hms rs) s g := ⟨_, rfl⟩
  obtain ⟨m, hm⟩ : ∃ q, q = schN s := ⟨_, rfl⟩
  have hm6 : m ≤ 6 := by rw [hm]; exact schN_le s
  have HTL : Shut (T.length = m ∧ Bs.length = m) := ⟨by rw [hT, hBs, hm]; exact ⟨unitsT_len _ _ _, unitsB_len _ _ _⟩⟩
  have HTA : Shut (∀ k, k < m → tv (T.take (k + 1)) = tv (T.take k) ++ [.string (firstU (hms rs) g (k : Nat)).1] ∧ bcs (Bs.take (k + 1)) = bcs (Bs.take k) ++ [.bool (firstU (hms rs) g (k : Nat)).2]) := ⟨fun k hk => by
    have e1 : T[k]? = some (firstU (hms rs) g (k : Nat)).1 := by rw [hT]; unfold unitsT unitsL; simp [← hm, hk]
    have e2 : Bs[k]? = some (firstU (hms rs) g (k : Nat)).2 := by rw [hBs]; unfold unitsB unitsL; simp [← hm, hk]
    obtain ⟨l1, e1⟩ := List.getElem?_eq_some_iff.1 e1
    obtain ⟨l2, e2⟩ := List.getElem?_eq_some_iff.1 e2
    rw [List.take_succ_eq_append_getElem l1, List.take_succ_eq_append_getElem l2, e1, e2]
    exact ⟨by simp [tv], by simp [bcs]⟩⟩
  rw [← hT, ← hBs]
  have HM : Shut (m = schK s + schM s) := ⟨by rw [hm]; rfl⟩
  unfold SchB at HSC
  generalize rs.length = n at *
  generalize schK s = ka at *
  generalize schM s = kb at *
  generalize schOk s = kc at *
  have hkm : (ka : Int) + (kb : Int) = (m : Int) := by have := HM.out; omega
  clear hr hz hT hBs hm htab
  go_enter Tw.func14, Tw.ntmps14
  go_wp2_with (go_at_call 28; refine (HSC.out _).mono ?_; rintro e w1 ⟨rfl, hb1⟩; have HB1 := Shut.mk hb1; clear hb1)
  go_loopw [11, 12, 25] (fun v u i9 wr => ∃ (k : Nat), i9 = .int .i64 (k : Nat) ∧ k ≤ m ∧ Shut (TwoR w wr v u k k (T.take k) (Bs.take k))) (fun _ _ i9 _ => m - (intOf i9).toNat)
  case atStart => exact ⟨0, rfl, Nat.zero_le _, ⟨⟨HB1.out, by simp [tv]; exact World.ownsRow_nil _ _ _ _, by simp [bcs]; exact World.ownsRow_nil _ _ _ _, fun q e => by cases e⟩⟩⟩
  case round =>
    clear HB1
    obtain ⟨k, rfl, hk, HW⟩ := hrel
    obtain ⟨av, cv, rfl⟩ := own_any9 HW.out.t
    obtain ⟨bv, dv, rfl⟩ := own_any9 HW.out.b
    by_cases hlt : k < m
    case neg =>
      obtain rfl : m = k := by omega
      have HE := HW.out
      rw [List.take_of_length_le (Nat.le_of_eq HTL.out.1), List.take_of_length_le (Nat.le_of_eq HTL.out.2)] at HE
      replace HE := Shut.mk HE
      go_wp2_with fail
      go_ret2
      exact HE.out.post HTL.out.1 HTL.out.2
    have k1 : (k : Int) < (m : Int) := by omega
    have HCA := Shut.mk (HFI.out k wr HW.out.bel)
    have HNX := Shut.mk (HTA.out k hlt)
    generalize firstU (hms rs) g (k : Nat) = F at *
    obtain ⟨ft, fb⟩ := F
    dsimp only at HCA HNX
    go_wp2_with (first
      | (go_at_call 29; refine HCA.out.mono ?_; rintro e w2 ⟨rfl, hb2⟩; have HW2 := Shut.mk (HW.out.below hb2); clear hb2; have hown := HW2.out.t; have hsz := HW2.out.bel.size)
      | (at_builtin; refine wpList_append_own_at _ rfl _ _ 34 rfl w.heap.size 9 i0 (.string ⟨#[]⟩) 1 16 Tw.underlying34 hi hz0 hz1 hz2 rfl (by decide) _ _ _ rfl (hown.alloc _) ⟨w2.heap.size, 0, none⟩ 1 1 [.string ft] rfl rfl (cell_one_new _ _ _) ?c2 ?c3 ?c4 ?c5 ?_))
    case c2 => simp [Value.oneCell']
    case c3 => unfold maxLen; omega
    case c4 => omega
    case c5 => first | omega | (simp; omega)
    intro v9 w9 ho hg _ hat
    rw [← HNX.out.1] at ho
    have HT9 := Shut.mk (HW2.out.moreT ((Below.refl _ _).alloc (Nat.le_refl _) _) ho hg (by simpa using hat))
    clear ho hg hat hown hsz
    have hown := HT9.out.b
    have hsz := HT9.out.bel.size
    go_wp2_with (at_builtin; refine wpList_append_own_at _ rfl _ _ 35 rfl w.heap.size 4 i1 (.bool false) 1 1 Tw.underlying35 hi' hy0 hy1 hy2 rfl (by decide) _ _ _ rfl (hown.alloc _) ⟨w9.heap.size, 0, none⟩ 1 1 [.bool fb] rfl rfl (cell_one_new _ _ _) ?c2 ?c3 ?c4 ?c5 ?_)
    case c2 => simp [Value.oneCell']
    case c3 => unfold maxLen; omega
    case c4 => omega
    case c5 => first | omega | (simp; omega)
    intro u9 w10 ho hg _ hat
    rw [← HNX.out.2] at ho
    have HB9 := Shut.mk (HT9.out.moreB ((Below.refl _ _).alloc (Nat.le_refl _) _) ho hg (by simpa using hat))
    clear ho hg hat hown hsz
    go_wp2_with fail
    go_roundw
    case rel => exact ⟨k + 1, by go_num, by omega, HB9⟩
    case measure => simp [intOf]; omega
end Go.Proofs.YtbkimmbfepjodaaDoorT
/- What ReadGroup tells of hosts, and the walks of the model's ReadGroup and of the program's. -/
namespace Go.Proofs.YtbkimmbfepjodaaDoorT
set_option maxRecDepth 100000
open Go.RowKit
attribute [local go_sem ↓] Go.wp_at_zero Go.wp_at_succ
theorem invX_someR {X : List (List Int)} (h : (invX X).2 = true) : ∃ Y, IsInv X Y ∧ invX X = (Y, true) := by
  by_cases q : ∃ Y, IsInv X Y
  · obtain ⟨Y, hY⟩ := q
    exact ⟨Y, hY, invX_yes hY⟩
  · rw [invX_no q] at h
    cases h
/-- What is decoded is no more than what was there. -/
theorem decX_fitU {s : Int} {L : List ByteArray} {H : List Bool} (hf : UFit L) : UFit (decX s L H).1 := by
  by_cases h : DecOk s L H ∧ (invX (rowsP s (pickI s H H.length))).2 = true
  · rw [decX_yes h.1 h.2]
    obtain ⟨⟨h1, h2, h3, h4, h5⟩, h6⟩ := h
    obtain ⟨b1, b2, _, _⟩ := sch_bounds h1
    have hlh : H.length = L.length := by omega
    have hsub := units_sub L (pick_sub s H L.length)
    rw [hlh] at h5 h6 ⊢
    have hpl : (pickI s H L.length).length = schK s := by rw [pick_len]; omega
    obtain ⟨Y, hY, e2⟩ := invX_someR h6
    rw [e2]
    show UFit (appX Y (unitsP L (pickI s H L.length)))
    have hYl : Y.length = schK s := by rw [hY.2.2.1.len, rowsP_len, hpl]
    unfold appX
    split
    · refine ⟨by rw [List.length_map, hYl]; omega, fun x hx => ?_⟩
      obtain ⟨row, _, rfl⟩ := List.mem_map.1 hx
      exact accB_size row _ (fun y hy => hf.2 y (hsub.subset hy)) _
    · exact ⟨Nat.zero_le _, fun x hx => by cases hx⟩
  · rw [decX_no h]; exact ⟨Nat.zero_le _, fun x hx => by cases hx⟩
/-- Whether there is an answer to a question of an inverse, it is a list of nothing where it is no. -/
theorem decX_flag {s : Int} {L : List ByteArray} {H : List Bool} (h : (decX s L H).2 = false) : decX s L H = ([], false) := by
  by_cases q : DecOk s L H ∧ (invX (rowsP s (pickI s H H.length))).2 = true
  · rw [decX_yes q.1 q.2] at h; cases h
  · exact decX_no q
noncomputable def readX (hs : List HM) (s g n : Int) : ByteArray × Bool := joinX s (decX s (unitsT hs s g) (unitsB hs s g)).1 n
theorem readX_no {hs : List HM} {s g n : Int} (h : (decX s (unitsT hs s g) (unitsB hs s g)).2 = false) : readX hs s g n = (⟨#[]⟩, false) := by
  unfold readX
  rw [decX_flag h]
  refine joinX_no fun q => ?_
  obtain ⟨b1, _, _, _⟩ := sch_bounds q.1
  have := q.2.1
  simp at this
  omega
theorem unitsT_fit {hs : List HM} {s g : Int} (hz : hsSum hs ≤ 1048576) : UFit (unitsT hs s g) := by
  refine ⟨by rw [unitsT_len]; have := schN_le s; omega, fun x hx => ?_⟩
  obtain ⟨y, hy, rfl⟩ := List.mem_map.1 hx
  obtain ⟨i, _, rfl⟩ := List.mem_map.1 hy
  refine Nat.le_trans (firstU_size (B := hsSum hs) fun h hh => ?_) hz
  have := hsSum_mem hh
  omega
set_option maxRecDepth 100000 in
set_option maxHeartbeats 4000000 in
theorem specReadGroup (a : Option Addr) (rs : List HoR) (cap : Nat) (s g n : Int) (w : World) (hr : HsRow w a rs) (hl : rs.length ≤ 1048576) (hz : hsSum (hms rs) ≤ 1048576) :
    Calls Tw.prog 5 #[.slice a rs.length cap, .int .i64 s, .int .i64 g, .int .i64 n] w fun e w' => e = .returned (.tuple #[.string (readX (hms rs) s g n).1, .bool (readX (hms rs) s g n).2]) ∧ Below w.heap.size w w' := by
  have HU := Shut.mk (specUnitsOf a rs cap s g w hr hl hz)
  have HF := Shut.mk (unitsT_fit (s := s) (g := g) hz)
  have HBL : Shut ((unitsB (hms rs) s g).length ≤ 1048576) := ⟨by rw [unitsB_len]; have := schN_le s; omega⟩
  have HNO := Shut.mk (readX_no (hs := hms rs) (s := s) (g := g) (n := n))
  have HRX : Shut (readX (hms rs) s g n = joinX s (decX s (unitsT (hms rs) s g) (unitsB (hms rs) s g)).1 n) := ⟨rfl⟩
  generalize readX (hms rs) s g n = R at *
  generalize unitsT (hms rs) s g = T at *
  generalize unitsB (hms rs) s g = Bs at *
  generalize rs.length = m at *
  clear hr hl hz
  go_enter Tw.func5, Tw.ntmps5
  go_wp2_with fail
  refine HU.out.mono ?_
  rintro e w1 ⟨v, u, l1, h1, l2, h2, rfl, hv, hu, q1, q2, q3, q4, q5, hb1⟩
  have HD := Shut.mk (specDecodeU s hv.see hu.see HF.out HBL.out)
  have HFD := Shut.mk (decX_fitU (s := s) (H := Bs) HF.out)
  have HB1 := Shut.mk hb1
  generalize decX s T Bs = D at *
  clear hv hu hb1 q1 q2 q3 q4 q5
  go_wp2_with fail
  refine HD.out.mono ?_
  rintro e w2 ⟨x, rfl, hx, hb2⟩
  have HJ := Shut.mk (specJoinUnitsU s n hx.see HFD.out)
  rw [← HRX.out] at HJ
  have HB2 := Shut.mk (HB1.out.trans (hb2.mono HB1.out.size))
  clear hx hb2 HD HB1
  obtain ⟨dl, db⟩ := D
  cases db with
  | false =>
    have HE := Shut.mk (HNO.out rfl)
    clear HJ
    go_wp2_with fail
    go_ret2
    rw [HE.out]
    exact ⟨rfl, HB2.out⟩
  | true =>
    go_wp2_with fail
    refine HJ.out.mono ?_
    rintro e w3 ⟨rfl, hb3⟩
    have HB3 := Shut.mk (HB2.out.trans (hb3.mono HB2.out.size))
    clear hb3 HJ HB2
    go_wp2_with fail
    go_ret2
    exact ⟨rfl, HB3.out⟩
set_option maxRecDepth 100000 in
set_option maxHeartbeats 4000000 in
theorem implReadGroup (a : Option Addr) (rs : List HoR) (cap : Nat) (s g n : Int) (w : World) (htab : SumTab w) (hr : HsRow w a rs) (hl : rs.length ≤ 1048576) (hz : hsSum (hms rs) ≤ 1048576) :
    Calls Tw.prog 7 #[.slice a rs.length cap, .int .i64 s, .int .i64 g, .int .i64 n] w fun e w' => e = .returned (.tuple #[.string (readX (hms rs) s g n).1, .bool (readX (hms rs) s g n).2]) ∧ Below w.heap.size w w' := by
  have HU := Shut.mk (implUnitsOf a rs cap s g w htab hr hl hz)
  have HF := Shut.mk (unitsT_fit (s := s) (g := g) hz)
  have HBL : Shut ((unitsB (hms rs) s g).length ≤ 1048576) := ⟨by rw [unitsB_len]; have := schN_le s; omega⟩
  have HNO := Shut.mk (readX_no (hs := hms rs) (s := s) (g := g) (n := n))
  have HRX : Shut (readX (hms rs) s g n = joinX s (decX s (unitsT (hms rs) s g) (unitsB (hms rs) s g)).1 n) := ⟨rfl⟩
  generalize readX (hms rs) s g n = R at *
  generalize unitsT (hms rs) s g = T at *
  generalize unitsB (hms rs) s g = Bs at *
  generalize rs.length = m at *
  clear hr hl hz
  go_enter Tw.func7, Tw.ntmps7
  go_wp2_with fail
  refine HU.out.mono ?_
  rintro e w1 ⟨v, u, l1, h1, l2, h2, rfl, hv, hu, q1, q2, q3, q4, q5, hb1⟩
  have HD := Shut.mk (implDecodeU w1 v u T Bs _ _ _ _ s hv.see hu.see HF.out HBL.out)
  have HFD := Shut.mk (decX_fitU (s := s) (H := Bs) HF.out)
  have HB1 := Shut.mk hb1
  generalize decX s T Bs = D at *
  clear hv hu hb1 q1 q2 q3 q4 q5
  go_wp2_with fail
  refine HD.out.mono ?_
  rintro e w2 ⟨x, rfl, hx, hb2⟩
  have HJ := Shut.mk (implJoinUnits w2 x _ _ _ s n hx.see HFD.out)
  rw [← HRX.out] at HJ
  have HB2 := Shut.mk (HB1.out.trans (hb2.mono HB1.out.size))
  clear hx hb2 HD HB1
  go_wp2_with fail
  refine HJ.out.mono ?_
  rintro e w3 ⟨rfl, hb3⟩
  have HB3 := Shut.mk (HB2.out.trans (hb3.mono HB2.out.size))
  clear hb3 HJ HB2
  go_wp2_with fail
  go_ret2
  exact ⟨rfl, HB3.out⟩
end Go.Proofs.YtbkimmbfepjodaaDoorT
/- Rows of hosts in the laws: sizes, copies, two that are the same. -/
namespace Go.Proofs.YtbkimmbfepjodaaDoorT
set_option maxRecDepth 100000
open Go.RowKit BigFrame
attribute [local go_sem ↓] Go.wp_at_zero Go.wp_at_succ

set_option maxRecDepth 100000 in
set_option maxHeartbeats 1000000 in
theorem szHostS_any (a : Option Addr) (rs : List HoR) (cap : Nat) (left : Int) (w : World) (hr : HsRow w a rs) (hf : HsFits (hms rs)) (h0 : 0 ≤ left) (h1 : left ≤ 1048576) :
    Calls Tw.prog 4 #[.slice a rs.length cap, .int .i64 left] w fun e w' => SzPostUn left (rs.length + hsSum (hms rs)) w e w' := by
  obtain ⟨n, hn⟩ : ∃ n, n = rs.length := ⟨_, rfl⟩
  have HN := Shut.mk hn
  have hl : n ≤ 9223372036854775807 := by rw [hn, ← hms_len]; exact hf.1
  rw [← hn]
  clear hn
  by_cases c1 : left - n < 0
  · clear hr hf
    go_enter Tw.func4, Tw.ntmps4
    go_wp2_with fail
    go_ret
    exact ⟨-1, rfl, by omega, by omega, Below.refl _ _⟩
  · have HR := Shut.mk hr
    have HF := Shut.mk hf
    have HML : Shut ((hms rs).length = n) := ⟨by rw [hms_len, HN.out]⟩
    clear hr hf
    go_enter Tw.func4, Tw.ntmps4
    go_wp2_with fail
    go_loopw [1, 5] (fun v i wr => ∃ (k : Nat) (l : Int), v = .int .i64 l ∧ i = .int .i64 k ∧ k ≤ n ∧ 0 ≤ l ∧ Shut (l + n + hsSum ((hms rs).take k) = left) ∧ Shut (Below w.heap.size w wr)) (fun _ i _ => n - (intOf i).toNat)
    case atStart => exact ⟨0, left - n, rfl, rfl, Nat.zero_le _, by omega, ⟨by simp [hsSum]⟩, ⟨Below.refl _ _⟩⟩
    case round =>
      obtain ⟨k, l, rfl, rfl, hk, hl0, HS, HB⟩ := hrel
      by_cases hlt : k < n
      · have hkr : k < rs.length := by rw [← HN.out]; exact hlt
        obtain ⟨b, off, r, rfl, hre, lb, hc⟩ := hs_at HR.out HB.out hkr
        obtain ⟨d0, d1, d2, d3⟩ := hc wr (Below.refl _ _)
        have hme : (hms rs)[k]'(by rw [hms_len]; exact hkr) = r.h := by rw [hre]; simp [hms]
        have HST : Shut (hsSum ((hms rs).take (k + 1)) = hsSum ((hms rs).take k) + (r.h.us.length + unSum r.h.us)) := ⟨by have := hsSum_take (hms rs) k (by rw [hms_len]; exact hkr); rw [hme] at this; exact this⟩
        have hl1 : l ≤ 1048576 := by have := HS.out; omega
        have HSZ := Shut.mk (fun W (hW : Below wr.heap.size wr W) => szHost_any r.h r.loc r.cap l W (d3.stays hW) (HF.out.2 r.h (by rw [← hme]; exact List.getElem_mem _)).1 hl0 hl1)
        obtain ⟨H, rl, rc⟩ := r
        obtain ⟨hid, hup, hus⟩ := H
        dsimp only [hov] at *
        obtain ⟨m, hm⟩ : ∃ m, m = hus.length := ⟨_, rfl⟩
        rw [← hm] at d2 HSZ HST
        have k0 : (0 : Int) ≤ (k : Int) := by omega
        have k1 : (k : Int) < (n : Int) := by omega
        clear hc hre hme d3 hm
        go_wp2_with fail
        refine (HSZ.out _ (Below.refl _ _)).mono ?_
        rintro e w2 ⟨r, rfl, hr1, hr2, hb2⟩
        have HB2 := Shut.mk (HB.out.trans (hb2.mono HB.out.size))
        clear hb2
        by_cases hr : r < 0
        · go_wp2_with fail
          go_ret
          exact ⟨-1, rfl, by omega, by omega, HB2.out⟩
        · have HS2 : Shut (r + n + hsSum ((hms rs).take (k + 1)) = left) := ⟨by have h1 := hr2 (by omega); have h2 := HS.out; rw [HST.out]; push_cast at h1 ⊢; omega⟩
          clear hr2
          go_wp2_with fail
          go_roundw
          case rel => exact ⟨k + 1, r, rfl, by go_num, by omega, by omega, HS2, HB2⟩
          case measure => simp [intOf]; omega
      · obtain rfl : n = k := by omega
        have HE : Shut (l + (n + hsSum (hms rs) : Nat) = left) := ⟨by have h := HS.out; rw [List.take_of_length_le (by rw [HML.out]; exact Nat.le_refl _)] at h; push_cast; omega⟩
        go_wp2_with fail
        go_ret
        exact ⟨l, rfl, by omega, fun _ => HE.out, HB.out⟩
theorem infoHost : (Tw.prog.info? 43).map (fun i => (i.zero, i.size, i.bytes)) = some (some (.agg #[.int .i64 0, .bool false, .slice none 0 0]), 3, 40) := by kernel_rfl
set_option maxRecDepth 100000 in
set_option maxHeartbeats 4000000 in
theorem toHostS_any (a : Option Addr) (rs : List HoR) (cap : Nat) (w : World) (hm : HsRow w a rs) (hl : rs.length ≤ 1048576) (hp : ∀ r ∈ rs, r.h.us.length ≤ 1048576) :
    Calls Tw.prog 6 #[.slice a rs.length cap] w fun e w' => HsPost (hms rs) w e w' := by
  obtain ⟨i0, hi, hz0, hz1, hz2⟩ := info_parts infoHost
  have HR := Shut.mk (And.intro hm hp)
  obtain ⟨n, hn⟩ : ∃ n, n = rs.length := ⟨_, rfl⟩
  have HN := Shut.mk hn
  rw [← hn] at hl ⊢
  clear hm hp hn
  go_enter Tw.func6, Tw.ntmps6
  go_wp2_with (at_make; refine wpList_make_full _ rfl _ _ 26 rfl w.heap.size 43 i0 _ 3 Tw.underlying26 hi hz0 hz1 .i64 .i64 _ _ n rfl rfl (by omega) (by omega) ?b2 ?b3 ?b4 ?_)
  case b2 => rw [hz2]; omega
  case b3 => unfold maxLen; omega
  case b4 => omega
  intro wm hownm hgrm
  have hbm : Below w.heap.size w wm := (Below.refl _ _).grown hgrm (Nat.le_refl _) (fun j hj => by simp at hj)
  have hrow : WCells wm w.heap.size (hS (List.replicate n default)) := by
    have h := own_wcells hownm
    have e : (madeCells #[.int .i64 0, .bool false, .slice none 0 0] (n * 3)).toList = hS (List.replicate n default) := made_flat hC_len (by decide) #[.int .i64 0, .bool false, .slice none 0 0] default rfl _
    rw [e] at h; exact h
  have HTW : Shut (GW HK wm w.heap.size (List.replicate n default) w.heap.size wm.heap.size ∧ ∀ r ∈ List.replicate n (default : HoR), r.h.us.length ≤ r.cap) := ⟨⟨⟨hrow, Nat.le_refl _, hrow.1, fun r hr => .inl (by rw [List.eq_of_mem_replicate hr]; rfl), List.pairwise_iff_getElem.2 (fun i j hi hj _ h1 => absurd (by simp only [List.getElem_replicate]; rfl) h1)⟩, fun r hr => by rw [List.eq_of_mem_replicate hr]; exact Nat.le_refl _⟩⟩
  have HBM := Shut.mk hbm
  clear hownm hgrm hrow hbm
  go_wp2_with fail
  go_loopw [4] (fun i wr => ∃ (k : Nat) (gs : List HoR), i = .int .i64 k ∧ k ≤ n ∧ Shut (gs.length = n ∧ hms (gs.take k) = hms (rs.take k)) ∧ Shut (GW HK wr w.heap.size gs w.heap.size wr.heap.size ∧ ∀ r ∈ gs, r.h.us.length ≤ r.cap) ∧ Shut (Below w.heap.size w wr)) (fun i _ => n - (intOf i).toNat)
  case atStart => exact ⟨0, _, rfl, by omega, ⟨by simp, by simp⟩, HTW, HBM⟩
  case round =>
    clear HTW HBM
    obtain ⟨k, gs, rfl, hk, HG, hw, hb⟩ := hrel
    by_cases hlt : k < n
    · have hlr : k < rs.length := by have := HN.out; omega
      obtain ⟨b, off, r, rfl, hre, lb, hc⟩ := hs_at HR.out.1 hb.out hlr
      obtain ⟨d0, d1, d2, d3⟩ := hc wr (Below.refl _ _)
      have HRE : Shut (r = rs[k]) := ⟨hre⟩
      have HTO := Shut.mk (fun W (hW : Below wr.heap.size wr W) => toHost_any r.h r.loc r.cap W (d3.stays hW) (by rw [hre]; exact HR.out.2 _ (List.getElem_mem hlr)))
      unfold HoPost at HTO
      obtain ⟨H, rl, rc⟩ := r
      dsimp only [hov] at *
      obtain ⟨m, hm⟩ : ∃ m, m = H.us.length := ⟨_, rfl⟩
      rw [← hm] at d2 HTO
      have HM := Shut.mk hm
      have k0 : (0 : Int) ≤ (k : Int) := by omega
      have k1 : (k : Int) < (n : Int) := by omega
      clear hc hre d3 hm
      go_wp2_with fail
      refine (HTO.out _ (Below.refl _ _)).mono ?_
      rintro e w2 ⟨a', c', rfl, hF, hc', hb2⟩
      have hgk : k < gs.length := by have := HG.out.1; omega
      have HC := Shut.mk ((hw.out.1.host hb2 k hgk H a' c' hF hb.out.size).wide (Nat.le_refl _) (Nat.le_of_eq (setW_sz w2 w.heap.size (k * 3) (hC ⟨H, a', c'⟩)).symm))
      have HWO := Shut.mk (hw.out.1.out.below hb2 hw.out.1.out.1)
      have HB3 := Shut.mk (below_setW (hb.out.trans (hb2.mono hb.out.size)) (Nat.le_refl _) (k * 3) (hC ⟨H, a', c'⟩))
      have HCP : Shut (∀ r ∈ gs.set k ⟨H, a', c'⟩, r.h.us.length ≤ r.cap) := ⟨fun r hr => by
        rcases List.mem_or_eq_of_mem_set hr with q | rfl
        · exact hw.out.2 r q
        · show H.us.length ≤ c'; have := HM.out; omega⟩
      unfold hC at HC HB3
      dsimp only at HC HB3
      rw [setW3, ← HM.out] at HC HB3
      clear hw hb hb2 hF d0 d1 d2
      obtain ⟨c0, z0⟩ := HWO.out.2 (k * 3) _ (flat_get hC_len gs k hgk 0 (by omega))
      obtain ⟨c1, z1⟩ := HWO.out.2 (k * 3 + 1) _ (flat_get hC_len gs k hgk 1 (by omega))
      obtain ⟨c2, z2⟩ := HWO.out.2 (k * 3 + 2) _ (flat_get hC_len gs k hgk 2 (by omega))
      clear HWO
      go_wp2_with fail
      go_roundw
      case rel =>
        refine ⟨k + 1, gs.set k ⟨H, a', c'⟩, by go_num, by omega, ⟨by rw [List.length_set]; exact HG.out.1, ?_⟩, ⟨HC.out, HCP.out⟩, HB3⟩
        rw [List.take_succ_eq_append_getElem (by rw [List.length_set]; exact hgk), List.take_succ_eq_append_getElem hlr, List.take_set_of_le (Nat.le_refl _)]
        have e1 := HG.out.2
        unfold hms at e1 ⊢
        rw [List.map_append, List.map_append, e1, List.getElem_set_self, ← HRE.out]
        rfl
      case measure => simp [intOf]; omega
    · have e : hms gs = hms rs := by
        have h := HG.out.2
        rw [List.take_of_length_le (by have := HG.out.1; omega), List.take_of_length_le (by have := HN.out; omega)] at h; exact h
      have HE := Shut.mk e
      have HGL := Shut.mk HG.out.1
      clear e HG
      go_wp2_with fail
      go_ret
      exact ⟨_, n, gs, by rw [HGL.out]; rfl, HE.out, ⟨hw.out.2, .inr ⟨_, rfl, hw.out.1⟩⟩, Nat.le_of_eq HGL.out, hb.out⟩
set_option maxRecDepth 100000 in
set_option maxHeartbeats 2000000 in
theorem eqHostS_same (a b : Option Addr) (ra rb : List HoR) (ca cb : Nat) (w : World) (ha : HsRow w a ra) (hb : HsRow w b rb) (he : hms ra = hms rb) (hl : ra.length ≤ 9000000) (hp : ∀ r ∈ ra, r.h.us.length ≤ 9000000) :
    Calls Tw.prog 8 #[.slice a ra.length ca, .slice b rb.length cb] w fun e w' => e = .returned (.bool true) ∧ Below w.heap.size w w' := by
  have hlen : rb.length = ra.length := by rw [← hms_len ra, ← hms_len rb, he]
  obtain ⟨n, hn⟩ : ∃ n, n = ra.length := ⟨_, rfl⟩
  have HN := Shut.mk (And.intro hn (hlen.trans hn.symm))
  rw [hlen, ← hn]
  rw [← hn] at hl
  have HA := Shut.mk ha
  have HB := Shut.mk hb
  have HE := Shut.mk (And.intro he hp)
  clear ha hb he hp hlen hn
  go_enter Tw.func8, Tw.ntmps8
  go_wp2_with fail
  go_loopw [5] (fun i wr => ∃ (k : Nat), i = .int .i64 k ∧ k ≤ n ∧ Shut (Below w.heap.size w wr)) (fun i _ => n - (intOf i).toNat)
  case atStart => exact ⟨0, rfl, Nat.zero_le _, ⟨Below.refl _ _⟩⟩
  case round =>
    obtain ⟨k, rfl, hk, HW⟩ := hrel
    by_cases hlt : k < n
    · have hka : k < ra.length := by have := HN.out.1; omega
      have hkb : k < rb.length := by have := HN.out.2; omega
      obtain ⟨b1, o1, r1, rfl, hr1, l1, hc1⟩ := hs_at HA.out HW.out hka
      obtain ⟨b2, o2, r2, rfl, hr2, l2, hc2⟩ := hs_at HB.out HW.out hkb
      have hsame : r1.h = r2.h := by
        have q : (hms ra)[k]'(by rw [hms_len]; exact hka) = (hms rb)[k]'(by rw [hms_len]; exact hkb) := by simp only [HE.out.1]
        simp only [hms, List.getElem_map] at q
        rw [hr1, hr2]
        exact q
      have hpl : r1.h.us.length ≤ 9000000 := by rw [hr1]; exact HE.out.2 _ (List.getElem_mem hka)
      have HC1 := Shut.mk hc1
      have HC2 := Shut.mk hc2
      clear hr1 hr2 hc1 hc2
      obtain ⟨H, rl1, rc1⟩ := r1
      obtain ⟨H2, rl2, rc2⟩ := r2
      dsimp only at hsame hpl HC1 HC2
      subst hsame
      have HEQ := Shut.mk (fun (x : World) (hx : Below wr.heap.size wr x) => eqHost_same H rl1 rl2 rc1 rc2 x (HC1.out x hx).2.2.2 (HC2.out x hx).2.2.2 hpl)
      obtain ⟨hid, hup, hus⟩ := H
      dsimp only [hov] at *
      obtain ⟨m, hm⟩ : ∃ m, m = hus.length := ⟨_, rfl⟩
      rw [← hm] at HEQ HC1 HC2
      have k0 : (0 : Int) ≤ (k : Int) := by omega
      have k1 : (k : Int) < (n : Int) := by omega
      clear hm hpl
      have p0 : ∀ X : Grow wr, X.val.cell? ⟨b1, o1 + k * 3, none⟩ = some (.int .i64 hid) := fun X => (HC1.out X.val X.bel).1
      have p1 : ∀ X : Grow wr, X.val.cell? ⟨b1, o1 + k * 3 + 1, none⟩ = some (.bool hup) := fun X => (HC1.out X.val X.bel).2.1
      have p2 : ∀ X : Grow wr, X.val.cell? ⟨b1, o1 + k * 3 + 2, none⟩ = some (.slice rl1 m rc1) := fun X => (HC1.out X.val X.bel).2.2.1
      have q0 : ∀ X : Grow wr, X.val.cell? ⟨b2, o2 + k * 3, none⟩ = some (.int .i64 hid) := fun X => (HC2.out X.val X.bel).1
      have q1 : ∀ X : Grow wr, X.val.cell? ⟨b2, o2 + k * 3 + 1, none⟩ = some (.bool hup) := fun X => (HC2.out X.val X.bel).2.1
      have q2 : ∀ X : Grow wr, X.val.cell? ⟨b2, o2 + k * 3 + 2, none⟩ = some (.slice rl2 m rc2) := fun X => (HC2.out X.val X.bel).2.2.1
      have HKQ := Shut.mk (fun X => calls_grow (w := wr) (fun W' (hb : Below wr.heap.size wr W') => HEQ.out W' hb) X)
      have HGR : Shut (∀ X : Grow wr, Below w.heap.size w X.val) := ⟨fun X => HW.out.trans (X.bel.mono HW.out.size)⟩
      go_wp2_with fail
      refine wp_region_grow (by kernel_rfl) (by kernel_rfl) ?_
      repeat (go_big_quiet_step (first | (go_at_call 17; with_reducible exact HKQ.out _)))
      refine wpQuiet_nil ?_
      rintro _ ⟨X, rfl⟩
      clear p0 p1 p2 q0 q1 q2
      go_wp2_with fail
      go_roundw
      case rel => exact ⟨k + 1, by go_num, by omega, ⟨HGR.out X⟩⟩
      case measure => simp [intOf]; omega
    · obtain rfl : n = k := by omega
      go_wp2_with fail
      go_ret
      exact ⟨rfl, HW.out⟩
end Go.Proofs.YtbkimmbfepjodaaDoorT
/- Marks in rows of hosts. -/
namespace Go.Proofs.YtbkimmbfepjodaaDoorT
set_option maxRecDepth 100000
open Go.RowKit BigFrame
attribute [local go_sem ↓] Go.wp_at_zero Go.wp_at_succ

end Go.Proofs.YtbkimmbfepjodaaDoorT
/- Rows of hosts in the laws: what the laws' own steps come to. -/
namespace Go.Proofs.YtbkimmbfepjodaaDoorT
set_option maxRecDepth 100000
open Go.RowKit BigFrame
attribute [local go_sem ↓] Go.wp_at_zero Go.wp_at_succ

theorem hide_hs {w W : World} {S : List Str} {a : Option Addr} {X : List HoR} {lo hi : Nat} (h : Shut (SL w W (hsS a X lo hi :: S))) : ∃ l h, Shut (SL w W (hsS a X l h :: S)) := ⟨lo, hi, h⟩
theorem toHostS_num (a : Option Addr) (rs : List HoR) (cap n : Nat) (hn : n = rs.length) (w : World) (hm : HsRow w a rs) (hl : n ≤ 1048576) (hp : hsSum (hms rs) ≤ 1048576) :
    Calls Tw.prog 6 #[.slice a n cap] w fun e w' => ∃ va ca rs', e = .returned (.slice va n ca) ∧ n = rs'.length ∧ hms rs' = hms rs ∧ HsW w' va rs' w.heap.size w'.heap.size ∧ Below w.heap.size w w' := by
  subst hn
  refine (toHostS_any a rs cap w hm hl (fun r hr => ?_)).mono ?_
  · have := hsSum_mem (hs := hms rs) (h := r.h) (List.mem_map_of_mem hr)
    omega
  · rintro e w' ⟨va, ca, rs', rfl, e1, hW, _, hb⟩
    have el : rs'.length = rs.length := by rw [← hms_len, e1, hms_len]
    exact ⟨va, ca, rs', by rw [el], el.symm, e1, hW, hb⟩
end Go.Proofs.YtbkimmbfepjodaaDoorT
