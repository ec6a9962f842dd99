/- The program's own: a unit's key, keys and units that are compared, the place of a unit. -/
import Derived.Test.YtbanfccnmbmcfaaDoorSpJ
import Derived.Test.YtbanfccnmbmcfaaDoorUnP
import Derived.Handy
import Derived.Laws.StructEq
namespace Go.Proofs.YtbanfccnmbmcfaaDoor
set_option maxRecDepth 100000
open Go.RowKit BigFrame
attribute [local go_sem ↓] Go.wp_at_zero Go.wp_at_succ

theorem eqgKey (x y : Operand) (a b c d : Int) (W : World) : Sem.run Tryd.prog (eqGuard BinOp.eql 66 x y (.agg #[.int .i64 a, .int .i64 b]) (.agg #[.int .i64 c, .int .i64 d])) W = .ok () W := by kernel_rfl
theorem eqKey (a b c d : Int) (W : World) : Sem.run Tryd.prog (binOp BinOp.eql 66 (.agg #[.int .i64 a, .int .i64 b]) (.agg #[.int .i64 c, .int .i64 d])) W = .ok (.bool (a == c && b == d)) W := by
  rw [run_eql_struct, run_equalIn_agg W 9999 66 _ _ (by kernel_rfl) (by kernel_rfl)]
  simp [Op.eqFields, go_sem]
  by_cases h1 : a = c <;> by_cases h2 : b = d <;> simp [h1, h2]
set_option maxRecDepth 100000 in
theorem implKey (u : UnM) (w : World) : Calls Tryd.prog 61 #[unv u] w fun e w' => e = .returned (.agg #[.int .i64 u.group, .int .i64 u.index]) ∧ Below w.heap.size w w' := by
  have HS0 := Shut.mk (((SL.start w).new #[.int .i64 u.group, .int .i64 u.index, .string u.text, .int .i64 u.sum] 32).new #[.int .i64 0, .int .i64 0] 66)
  simp only [World.size_alloc] at HS0
  go_enter Tryd.func61, Tryd.ntmps61
  go_upto_region 1 with fail
  refine wp_shade (fun W => SL w W [bxS (w.heap.size + 1) [.int .i64 0, .int .i64 0], bxS w.heap.size [.int .i64 u.group, .int .i64 u.index, .string u.text, .int .i64 u.sum]]) HS0.out ?_
  intro W hW
  have H := Shut.mk hW
  clear HS0 hW
  have x0 := (H.out.bx 1 rfl 0 _ rfl).1
  have x1 := (H.out.bx 1 rfl 1 _ rfl).1
  obtain ⟨r0, r0z⟩ := H.out.bx 0 rfl 0 _ rfl
  obtain ⟨r1, r1z⟩ := H.out.bx 0 rfl 1 _ rfl
  go_wp2_with fail
  have HE := Shut.mk ((H.out.put 0 rfl 0 (.int .i64 u.group) (by simp)).put 0 rfl 1 (.int .i64 u.index) (by simp))
  exact bodyPost_ret (v := .agg #[.int .i64 u.group, .int .i64 u.index]) (by simp [results, Tryd.results61, go_sem, r0, r1]) rfl ⟨rfl, HE.out.bel⟩
set_option maxRecDepth 100000 in
set_option maxHeartbeats 1000000 in
theorem testKey (u : UnM) (kb : Nat) (g i : Int) (w : World) (h0 : w.cell? ⟨kb, 0, none⟩ = some (.int .i64 g)) (h1 : w.cell? ⟨kb, 1, none⟩ = some (.int .i64 i)) (hl : kb < w.heap.size) :
    Calls Tryd.prog 60 #[unv u, .pointer (some ⟨kb, 0, none⟩)] w fun e w' => e = .returned (.bool (keyIs g i u)) ∧ Below w.heap.size w w' := by
  have HS0 := Shut.mk ((SL.start w).new #[.int .i64 u.group, .int .i64 u.index, .string u.text, .int .i64 u.sum] 32)
  have HQ : Shut (keyIs g i u = (u.group == g && u.index == i)) := ⟨rfl⟩
  have hek := eqKey u.group u.index g i
  have heg := fun x y => eqgKey x y u.group u.index g i
  have HBW := Shut.mk ((Below.refl w.heap.size w).alloc (Nat.le_refl _) (.cells #[.int .i64 u.group, .int .i64 u.index, .string u.text, .int .i64 u.sum] 32))
  generalize keyIs g i u = R at HQ ⊢
  rw [← HQ.out] at hek
  go_enter Tryd.func60, Tryd.ntmps60
  go_upto_region 1 with fail
  refine wp_shade (fun W => SL w W [bxS w.heap.size [.int .i64 u.group, .int .i64 u.index, .string u.text, .int .i64 u.sum]]) HS0.out ?_
  intro W hW
  have H := Shut.mk hW
  clear HS0 hW
  have lq : w.heap.size < W.heap.size := (H.out.at 0 rfl).1
  have lk : kb < W.heap.size := Nat.lt_of_lt_of_le hl H.out.bel.size
  have g0 : ∀ X : Grow W, X.val.cell? ⟨w.heap.size, 0, none⟩ = some (.int .i64 u.group) := fun X => X.cell (H.out.bx 0 rfl 0 _ rfl).1 lq
  have g1 : ∀ X : Grow W, X.val.cell? ⟨w.heap.size, 1, none⟩ = some (.int .i64 u.index) := fun X => X.cell (H.out.bx 0 rfl 1 _ rfl).1 lq
  have g2 : ∀ X : Grow W, X.val.cell? ⟨w.heap.size, 2, none⟩ = some (.string u.text) := fun X => X.cell (H.out.bx 0 rfl 2 _ rfl).1 lq
  have g3 : ∀ X : Grow W, X.val.cell? ⟨w.heap.size, 3, none⟩ = some (.int .i64 u.sum) := fun X => X.cell (H.out.bx 0 rfl 3 _ rfl).1 lq
  have p0 : ∀ X : Grow W, X.val.cell? ⟨kb, 0, none⟩ = some (.int .i64 g) := fun X => X.cell ((H.out.bel.cell (p := ⟨kb, 0, none⟩) hl).trans h0) lk
  have p1 : ∀ X : Grow W, X.val.cell? ⟨kb, 1, none⟩ = some (.int .i64 i) := fun X => X.cell ((H.out.bel.cell (p := ⟨kb, 1, none⟩) hl).trans h1) lk
  have HK := Shut.mk (fun X => calls_grow (w := W) (fun W' (_ : Below W.heap.size W W') => implKey u W') X)
  have HGR : Shut (∀ X : Grow W, Below w.heap.size w X.val) := ⟨fun X => (H.out.below X.bel).bel⟩
  clear h0 h1
  refine wp_region_grow (by kernel_rfl) (by kernel_rfl) ?_
  repeat (go_big_quiet_step (first | (go_at_call 61; with_reducible exact HK.out _)))
  refine wpQuiet_nil ?_
  rintro _ ⟨X, rfl⟩
  go_wp2_with fail
  go_ret
  exact ⟨rfl, HGR.out X⟩
set_option maxRecDepth 100000 in
set_option maxHeartbeats 1000000 in
theorem indexKey (us : List UnM) (a : Option Addr) (n cap kb : Nat) (g i : Int) (w : World) (hr : UnRow w a us) (hn : n = us.length) (hl : n ≤ 9000000) (h0 : w.cell? ⟨kb, 0, none⟩ = some (.int .i64 g)) (h1 : w.cell? ⟨kb, 1, none⟩ = some (.int .i64 i)) (hk : kb < w.heap.size) :
    Calls Tryd.prog 59 #[.slice a n cap, .func (.func 60) #[] #[.pointer (some ⟨kb, 0, none⟩)]] w fun e w' => e = .returned (.int .i64 (atN us g i)) ∧ Below w.heap.size w w' := by
  obtain ⟨R, hR⟩ : ∃ R, R = atN us g i := ⟨_, rfl⟩
  rw [← hR]
  have HR := Shut.mk hR
  have HT := Shut.mk hr
  have HN := Shut.mk hn
  have HCC : Shut (∀ (W : World) (u : UnM), Below w.heap.size w W → Calls Tryd.prog 60 #[unv u, .pointer (some ⟨kb, 0, none⟩)] W fun e w' => e = .returned (.bool (keyIs g i u)) ∧ Below W.heap.size W w') := ⟨fun W u hb => testKey u kb g i W ((hb.cell (p := ⟨kb, 0, none⟩) hk).trans h0) ((hb.cell (p := ⟨kb, 1, none⟩) hk).trans h1) (Nat.lt_of_lt_of_le hk hb.size)⟩
  clear hR hr hn h0 h1
  go_enter Tryd.func59, Tryd.ntmps59
  go_wp2_with fail
  go_loopw [8] (fun iv wr => ∃ k : Nat, iv = .int .i64 k ∧ k ≤ n ∧ Shut (∀ j (hj : j < us.length), j < k → (us[j].group == g && us[j].index == i) = false) ∧ Shut (Below w.heap.size w wr)) (fun iv _ => n - (intOf iv).toNat)
  case atStart => exact ⟨0, rfl, Nat.zero_le _, ⟨fun _ _ h => absurd h (Nat.not_lt_zero _)⟩, ⟨Below.refl _ _⟩⟩
  case round =>
    obtain ⟨k, rfl, hk, HG, HW⟩ := hrel
    by_cases hlt : k < n
    case pos =>
      have hku : k < us.length := by have := HN.out; omega
      have k0 : (0 : Int) ≤ (k : Int) := by omega
      have k1 : (k : Int) < (n : Int) := by omega
      obtain ⟨b, off, rfl, lb, hc⟩ := UnRow.at (HT.out.stays HW.out) (by omega)
      obtain ⟨c0, c1, c2, c3⟩ := hc k hku
      have HF : Shut ((us[k].group == g && us[k].index == i) = true → R = (k : Int)) := ⟨fun h => HR.out.trans (atN_found hku h HG.out)⟩
      have HNX : Shut ((us[k].group == g && us[k].index == i) = false → ∀ j (hj : j < us.length), j < k + 1 → (us[j].group == g && us[j].index == i) = false) := ⟨fun h j hj hjk => by
        rcases Nat.lt_succ_iff_lt_or_eq.1 hjk with e | e
        · exact HG.out j hj e
        · subst e; exact h⟩
      have HCK := Shut.mk (HCC.out wr us[k] HW.out)
      unfold keyIs at HCK
      obtain ⟨u, hu⟩ : ∃ u, u = us[k] := ⟨_, rfl⟩
      rw [← hu] at c0 c1 c2 c3 HF HNX HCK
      obtain ⟨q, hq⟩ : ∃ q, q = (u.group == g && u.index == i) := ⟨_, rfl⟩
      rw [← hq] at HF HNX HCK
      clear hc hu hq
      cases q with
      | true =>
        have HE := Shut.mk (HF.out rfl)
        go_wp2_with (go_at_call 60; refine HCK.out.mono ?_; rintro e w1 ⟨rfl, hb1⟩; have HB1 := Shut.mk (HW.out.trans (hb1.mono HW.out.size)); clear hb1)
        go_ret
        exact ⟨by rw [HE.out]; rfl, HB1.out⟩
      | false =>
        have HE := Shut.mk (HNX.out rfl)
        go_wp2_with (go_at_call 60; refine HCK.out.mono ?_; rintro e w1 ⟨rfl, hb1⟩; have HB1 := Shut.mk (HW.out.trans (hb1.mono HW.out.size)); clear hb1)
        go_roundw
        case rel => exact ⟨k + 1, by go_num, by omega, HE, HB1⟩
        case measure => simp [intOf]; omega
    case neg =>
      have k1 : ¬ (k : Int) < (n : Int) := by omega
      have HE : Shut (R = -1) := ⟨HR.out.trans (atN_none fun j hj => HG.out j hj (by have := HN.out; omega))⟩
      go_wp2_with fail
      go_ret
      exact ⟨by rw [HE.out]; rfl, HW.out⟩
set_option maxRecDepth 100000 in
set_option maxHeartbeats 1000000 in
theorem implAt (H : HM) (a : Option Addr) (cap : Nat) (g i : Int) (w : World) (hr : UnRow w a H.us) (hl : H.us.length ≤ 9000000) :
    Calls Tryd.prog 37 #[hov H a cap, .agg #[.int .i64 g, .int .i64 i]] w fun e w' => e = .returned (.int .i64 (atN H.us g i)) ∧ Below w.heap.size w w' := by
  have HS0 := Shut.mk (((SL.start w).new #[.int .i64 H.id, .bool H.up, .slice a H.us.length cap] 26).new #[.int .i64 g, .int .i64 i] 66)
  simp only [World.size_alloc] at HS0
  have HR := Shut.mk hr
  clear hr
  obtain ⟨id, up, us⟩ := H
  dsimp only [hov] at *
  have HIX : Shut (∀ W, SL w W [bxS (w.heap.size + 1) [.int .i64 g, .int .i64 i], bxS w.heap.size [.int .i64 id, .bool up, .slice a us.length cap]] → Calls Tryd.prog 59 #[.slice a us.length cap, .func (.func 60) #[] #[.pointer (some ⟨w.heap.size + 1, 0, none⟩)]] W fun e w' => e = .returned (.int .i64 (atN us g i)) ∧ Below W.heap.size W w') := ⟨fun W h => indexKey us a us.length cap (w.heap.size + 1) g i W (HR.out.stays h.bel) rfl hl (h.bx 0 rfl 0 _ rfl).1 (h.bx 0 rfl 1 _ rfl).1 (h.at 0 rfl).1⟩
  generalize atN us g i = R at HIX ⊢
  generalize us.length = n at HS0 HIX ⊢
  go_enter Tryd.func37, Tryd.ntmps37
  go_upto_region 1 with fail
  refine wp_shade (fun W => SL w W [bxS (w.heap.size + 1) [.int .i64 g, .int .i64 i], bxS w.heap.size [.int .i64 id, .bool up, .slice a n cap]]) HS0.out ?_
  intro W hW
  have H := Shut.mk hW
  clear HS0 hW
  have x2 := (H.out.bx 1 rfl 2 _ rfl).1
  go_wp2_with (go_at_call 59; refine (HIX.out _ H.out).mono ?_; rintro e w1 ⟨rfl, hb1⟩; have HB1 := Shut.mk (H.out.below hb1).bel; clear hb1)
  go_ret
  exact ⟨rfl, HB1.out⟩
end Go.Proofs.YtbanfccnmbmcfaaDoor
