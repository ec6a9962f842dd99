/- Texts of ours, laid one behind the other: HpA, HpB, HpC, HpD, BRowM, FieldM, FieldN, SpL. -/
import Derived.Test.YtbanfccnmbmcfaaDoorPh5
import Derived.Handy
import Derived.Test.YtbanfccnmbmcfaaDoorShelf
import Derived.Laws.MakeOwn
import Derived.Deep.AppendLies
import Derived.Laws.StructEq
import Derived.Deep.RegionHeld3
import Derived.Deep.DrawnRows
/- HpA: The program's own: one unit held against another; units and hosts that are right (written by gen/mkhpa.py). -/
namespace Go.Proofs.YtbanfccnmbmcfaaDoor
set_option maxRecDepth 100000
open Go.RowKit BigFrame
attribute [local go_sem ↓] Go.wp_at_zero Go.wp_at_succ

def cmpI (x y : Int) : Int := if x < y then -1 else if y < x then 1 else 0
def cmpU (a b : UnM) : Int := if cmpI a.group b.group = 0 then cmpI a.index b.index else cmpI a.group b.group
theorem cmpI_is (x y : Int) : (x < y ∧ cmpI x y = -1) ∨ (y < x ∧ cmpI x y = 1) ∨ (x = y ∧ cmpI x y = 0) := by
  unfold cmpI
  split
  · exact .inl ⟨by assumption, rfl⟩
  · split
    · exact .inr (.inl ⟨by assumption, rfl⟩)
    · exact .inr (.inr ⟨by omega, rfl⟩)
theorem cmpU_neg (a b : UnM) : cmpU a b < 0 ↔ unLt a b = true := by
  rw [lt_iff]
  unfold cmpU
  have h1 := cmpI_is a.group b.group
  have h2 := cmpI_is a.index b.index
  split <;> omega
theorem cmpU_zero (a b : UnM) : cmpU a b = 0 ↔ unSame a b = true := by
  rw [same_iff]
  unfold cmpU
  have h1 := cmpI_is a.group b.group
  have h2 := cmpI_is a.index b.index
  split <;> omega
theorem nan_int (x : Int) (w : World) : Calls Tryd.prog 71 #[.int .i64 x] w fun e w' => e = .returned (.bool false) ∧ w' = w := by
  have h : (x != x) = false := by simp
  go_enter Tryd.func71, Tryd.ntmps71
  go_wp2_with fail
  go_ret
  exact ⟨rfl, rfl⟩
theorem cmp_int (x y : Int) (w : World) : Calls Tryd.prog 64 #[.int .i64 x, .int .i64 y] w fun e w' => e = .returned (.int .i64 (cmpI x y)) ∧ w' = w := by
  have HN := Shut.mk (fun z => nan_int z w)
  rcases cmpI_is x y with ⟨h, e⟩ | ⟨h, e⟩ | ⟨h, e⟩
  · rw [e]
    clear e
    go_enter Tryd.func64, Tryd.ntmps64
    go_wp2_with (go_at_call 71; refine (HN.out _).mono ?_; rintro e w1 ⟨rfl, hw1⟩; subst hw1)
    go_ret
    exact ⟨rfl, rfl⟩
  · rw [e]
    have h1 : ¬ x < y := by omega
    clear e
    go_enter Tryd.func64, Tryd.ntmps64
    go_wp2_with (go_at_call 71; refine (HN.out _).mono ?_; rintro e w1 ⟨rfl, hw1⟩; subst hw1)
    go_ret
    exact ⟨rfl, rfl⟩
  · rw [e]
    have h1 : ¬ x < y := by omega
    have h2 : ¬ y < x := by omega
    clear e h
    go_enter Tryd.func64, Tryd.ntmps64
    go_wp2_with (go_at_call 71; refine (HN.out _).mono ?_; rintro e w1 ⟨rfl, hw1⟩; subst hw1)
    go_ret
    exact ⟨rfl, rfl⟩
theorem or_two (g : Nat) (x y : Int) (c : Nat) (w : World) (h0 : w.cell? ⟨g, 0, none⟩ = some (.int .i64 x)) (h1 : w.cell? ⟨g, 1, none⟩ = some (.int .i64 y)) :
    Calls Tryd.prog 63 #[.slice (some ⟨g, 0, none⟩) 2 c] w fun e w' => e = .returned (.int .i64 (if x = 0 then y else x)) ∧ w' = w := by
  obtain ⟨R, hR⟩ : ∃ R, R = if x = 0 then y else x := ⟨_, rfl⟩
  rw [← hR]
  have HR := Shut.mk hR
  clear hR
  go_enter Tryd.func63, Tryd.ntmps63
  go_wp2_with fail
  go_loop [8] (fun i9 => ∃ (k : Nat), i9 = .int .i64 k ∧ k ≤ 2 ∧ Shut (1 ≤ k → x = 0) ∧ Shut (2 ≤ k → y = 0)) (fun i9 => 2 - (intOf i9).toNat)
  case atStart => exact ⟨0, rfl, by omega, ⟨by omega⟩, ⟨by omega⟩⟩
  case round =>
    obtain ⟨k, rfl, hk, HX, HY⟩ := hrel
    match k, hk with
    | 0, _ =>
      by_cases hx : x = 0
      · have hx1 : (x != 0) = false := by simp [hx]
        have HX0 := Shut.mk hx
        clear hx
        go_wp2_with fail
        go_round
        case rel => exact ⟨1, by go_num, by omega, ⟨fun _ => HX0.out⟩, ⟨by omega⟩⟩
        case measure => simp [intOf]
      · have hx1 : (x != 0) = true := by simp [hx]
        have HE : Shut (R = x) := ⟨by rw [HR.out, if_neg hx]⟩
        clear hx
        go_wp2_with fail
        go_ret
        exact ⟨by rw [HE.out]; rfl, rfl⟩
    | 1, _ =>
      have HE : Shut (R = y) := ⟨by rw [HR.out, if_pos (HX.out (Nat.le_refl _))]⟩
      by_cases hy : y = 0
      · have hy1 : (y != 0) = false := by simp [hy]
        have HY0 := Shut.mk hy
        clear hy
        go_wp2_with fail
        go_round
        case rel => exact ⟨2, by go_num, by omega, ⟨fun _ => HX.out (Nat.le_refl _)⟩, ⟨fun _ => HY0.out⟩⟩
        case measure => simp [intOf]
      · have hy1 : (y != 0) = true := by simp [hy]
        clear hy
        go_wp2_with fail
        go_ret
        exact ⟨by rw [HE.out]; rfl, rfl⟩
    | 2, _ =>
      have HE : Shut (R = 0) := ⟨by rw [HR.out, if_pos (HX.out (by omega)), HY.out (Nat.le_refl _)]⟩
      go_wp2_with fail
      go_ret
      exact ⟨by rw [HE.out]; rfl, rfl⟩
set_option maxRecDepth 100000 in
set_option maxHeartbeats 1000000 in
theorem implCmp (a b : UnM) (w : World) : Calls Tryd.prog 43 #[unv a, unv b] w fun e w' => e = .returned (.int .i64 (cmpU a b)) ∧ Below w.heap.size w w' := by
  have HS0 := Shut.mk (((SL.start w).new #[.int .i64 a.group, .int .i64 a.index, .string a.text, .int .i64 a.sum] 32).new #[.int .i64 b.group, .int .i64 b.index, .string b.text, .int .i64 b.sum] 32)
  simp only [World.size_alloc] at HS0
  have HQ : Shut (cmpU a b = if cmpI a.group b.group = 0 then cmpI a.index b.index else cmpI a.group b.group) := ⟨rfl⟩
  have HC1 := Shut.mk (fun x => cmp_int a.group b.group x)
  have HC2 := Shut.mk (fun x => cmp_int a.index b.index x)
  generalize cmpU a b = R at HQ ⊢
  obtain ⟨ag, ai, at9, as9⟩ := a
  obtain ⟨bg, bi, bt, bs⟩ := b
  dsimp only at *
  generalize cmpI ag bg = c1 at HQ HC1
  generalize cmpI ai bi = c2 at HQ HC2
  go_enter Tryd.func43, Tryd.ntmps43
  go_upto_region 1 with fail
  refine wp_shade (fun W => SL w W [bxS (w.heap.size + 1) [.int .i64 bg, .int .i64 bi, .string bt, .int .i64 bs], bxS w.heap.size [.int .i64 ag, .int .i64 ai, .string at9, .int .i64 as9]]) HS0.out ?_
  intro W0 hW
  have HT : Shut (∀ x, Later W0.drew x → SL w x [bxS (w.heap.size + 1) [.int .i64 bg, .int .i64 bi, .string bt, .int .i64 bs], bxS w.heap.size [.int .i64 ag, .int .i64 ai, .string at9, .int .i64 as9]]) := ⟨fun x hx => hW.drew.below hx⟩
  have HLE : Shut (∀ x, Later W0.drew x → x.cell? ⟨w.heap.size, 0, none⟩ = some (.int .i64 ag) ∧ x.cell? ⟨w.heap.size, 1, none⟩ = some (.int .i64 ai) ∧ x.cell? ⟨w.heap.size + 1, 0, none⟩ = some (.int .i64 bg) ∧ x.cell? ⟨w.heap.size + 1, 1, none⟩ = some (.int .i64 bi)) := ⟨fun x hx => ⟨((HT.out x hx).bx 1 rfl 0 _ rfl).1, ((HT.out x hx).bx 1 rfl 1 _ rfl).1, ((HT.out x hx).bx 0 rfl 0 _ rfl).1, ((HT.out x hx).bx 0 rfl 1 _ rfl).1⟩⟩
  clear HS0 hW
  refine wp_region_later (by kernel_rfl) ?_
  refine wpL_val (i := 0) (v := ?v0) rfl (by kernel_rfl) (by kernel_rfl) (by kernel_rfl) (fun _ _ _ h => h) (by rfl) ?hy0 ?rest0
  case hy0 => (intro x hx; obtain ⟨c0, c1, c2, c3⟩ := HLE.out x hx; go_simp; try with_reducible rfl)
  try simp only [Act.put, List.setIfInBounds_toArray, List.set_cons_zero, List.set_cons_succ]
  refine wpL_val (i := 1) (v := ?v1) rfl (by kernel_rfl) (by kernel_rfl) (by kernel_rfl) (fun _ _ _ h => h) (by rfl) ?hy1 ?rest1
  case hy1 => (intro x hx; obtain ⟨c0, c1, c2, c3⟩ := HLE.out x hx; go_simp; try with_reducible rfl)
  try simp only [Act.put, List.setIfInBounds_toArray, List.set_cons_zero, List.set_cons_succ]
  refine wpL_val (i := 2) (v := ?v2) rfl (by kernel_rfl) (by kernel_rfl) (by kernel_rfl) (fun _ _ _ h => h) (by rfl) ?hy2 ?rest2
  case hy2 => (intro x hx; obtain ⟨c0, c1, c2, c3⟩ := HLE.out x hx; go_simp; try with_reducible rfl)
  try simp only [Act.put, List.setIfInBounds_toArray, List.set_cons_zero, List.set_cons_succ]
  refine wpL_val (i := 3) (v := ?v3) rfl (by kernel_rfl) (by kernel_rfl) (by kernel_rfl) (fun _ _ _ h => h) (by rfl) ?hy3 ?rest3
  case hy3 => (intro x hx; obtain ⟨c0, c1, c2, c3⟩ := HLE.out x hx; go_simp; try with_reducible rfl)
  try simp only [Act.put, List.setIfInBounds_toArray, List.set_cons_zero, List.set_cons_succ]
  refine wpL_call (i := 4) (v := .int .i64 c1) (f := 64) (args := #[.int .i64 ag, .int .i64 bg]) rfl (by kernel_rfl) (by kernel_rfl) (by kernel_rfl) (fun _ _ _ h => h) (by rfl) ?hy4 (fun x _ => (HC1.out x).mono (by rintro e y ⟨rfl, hy⟩; subst hy; exact ⟨rfl, Later.refl _⟩)) ?rest4
  case hy4 => (intro x hx; obtain ⟨c0, c1, c2, c3⟩ := HLE.out x hx; go_simp; try with_reducible rfl)
  try simp only [Act.put, List.setIfInBounds_toArray, List.set_cons_zero, List.set_cons_succ]
  refine wpL_val (i := 5) (v := ?v5) rfl (by kernel_rfl) (by kernel_rfl) (by kernel_rfl) (fun _ _ _ h => h) (by rfl) ?hy5 ?rest5
  case hy5 => (intro x hx; obtain ⟨c0, c1, c2, c3⟩ := HLE.out x hx; go_simp; try with_reducible rfl)
  try simp only [Act.put, List.setIfInBounds_toArray, List.set_cons_zero, List.set_cons_succ]
  refine wpL_val (i := 6) (v := ?v6) rfl (by kernel_rfl) (by kernel_rfl) (by kernel_rfl) (fun _ _ _ h => h) (by rfl) ?hy6 ?rest6
  case hy6 => (intro x hx; obtain ⟨c0, c1, c2, c3⟩ := HLE.out x hx; go_simp; try with_reducible rfl)
  try simp only [Act.put, List.setIfInBounds_toArray, List.set_cons_zero, List.set_cons_succ]
  refine wpL_val (i := 7) (v := ?v7) rfl (by kernel_rfl) (by kernel_rfl) (by kernel_rfl) (fun _ _ _ h => h) (by rfl) ?hy7 ?rest7
  case hy7 => (intro x hx; obtain ⟨c0, c1, c2, c3⟩ := HLE.out x hx; go_simp; try with_reducible rfl)
  try simp only [Act.put, List.setIfInBounds_toArray, List.set_cons_zero, List.set_cons_succ]
  refine wpL_val (i := 8) (v := ?v8) rfl (by kernel_rfl) (by kernel_rfl) (by kernel_rfl) (fun _ _ _ h => h) (by rfl) ?hy8 ?rest8
  case hy8 => (intro x hx; obtain ⟨c0, c1, c2, c3⟩ := HLE.out x hx; go_simp; try with_reducible rfl)
  try simp only [Act.put, List.setIfInBounds_toArray, List.set_cons_zero, List.set_cons_succ]
  refine wpL_call (i := 9) (v := .int .i64 c2) (f := 64) (args := #[.int .i64 ai, .int .i64 bi]) rfl (by kernel_rfl) (by kernel_rfl) (by kernel_rfl) (fun _ _ _ h => h) (by rfl) ?hy9 (fun x _ => (HC2.out x).mono (by rintro e y ⟨rfl, hy⟩; subst hy; exact ⟨rfl, Later.refl _⟩)) ?rest9
  case hy9 => (intro x hx; obtain ⟨c0, c1, c2, c3⟩ := HLE.out x hx; go_simp; try with_reducible rfl)
  try simp only [Act.put, List.setIfInBounds_toArray, List.set_cons_zero, List.set_cons_succ]
  refine wpL_one (i := 10) (by kernel_rfl) rfl (by rfl) ?_
  intro x hx
  refine ⟨.slice (some ⟨x.heap.size, 0, none⟩) 2 2, x.alloc (.cells #[.int .i64 c1, .int .i64 c2] 3), ?_, (Below.refl _ _).alloc (Nat.le_refl _) _, ?_⟩
  · go_simp
  have hwx := wcells_new x #[.int .i64 c1, .int .i64 c2] 3
  have HBX : Shut (Below w.heap.size w (x.alloc (.cells #[.int .i64 c1, .int .i64 c2] 3))) := ⟨((HT.out x hx).below ((Below.refl _ _).alloc (Nat.le_refl _) _)).bel⟩
  have HOR : Shut (∀ y, Later (x.alloc (.cells #[.int .i64 c1, .int .i64 c2] 3)) y → Calls Tryd.prog 63 #[.slice (some ⟨x.heap.size, 0, none⟩) 2 2] y fun e z => e = .returned (.int .i64 R) ∧ Later y z) := ⟨fun y hy => by
    rw [HQ.out]
    refine (or_two x.heap.size c1 c2 2 y ((hwx.grow hy).2 0 _ rfl).1 ((hwx.grow hy).2 1 _ rfl).1).mono ?_
    rintro e z ⟨rfl, hz⟩
    subst hz
    exact ⟨rfl, Later.refl _⟩⟩
  clear hwx
  try simp only [Act.put, List.setIfInBounds_toArray, List.set_cons_zero, List.set_cons_succ]
  refine wpL_call (i := 11) (v := .int .i64 R) (f := 63) (args := #[.slice (some ⟨x.heap.size, 0, none⟩) 2 2]) rfl (by kernel_rfl) (by kernel_rfl) (by kernel_rfl) (fun _ _ _ h => h) (by rfl) ?hyq11 (fun y hy => HOR.out y hy) ?restq11
  case hyq11 => (intro x hx; go_simp; try with_reducible rfl)
  try simp only [Act.put, List.setIfInBounds_toArray, List.set_cons_zero, List.set_cons_succ]
  refine wpL_val (i := 12) (v := ?vq12) rfl (by kernel_rfl) (by kernel_rfl) (by kernel_rfl) (fun _ _ _ h => h) (by rfl) ?hyq12 ?restq12
  case hyq12 => (intro x hx; go_simp; try with_reducible rfl)
  try simp only [Act.put, List.setIfInBounds_toArray, List.set_cons_zero, List.set_cons_succ]
  refine wpL_done (by kernel_rfl) ?_ _
  intro y hy
  have HB := Shut.mk (HBX.out.trans (Below.mono hy HBX.out.size))
  go_wp2_with fail
  go_ret
  exact ⟨rfl, HB.out⟩
theorem implUnitOk (u : UnM) (w : World) : Calls Tryd.prog 42 #[unv u] w fun e w' => e = .returned (.bool (unOne u)) ∧ Below w.heap.size w w' := by
  have HS0 := Shut.mk ((SL.start w).new #[.int .i64 u.group, .int .i64 u.index, .string u.text, .int .i64 u.sum] 32)
  obtain ⟨g, i, t, s⟩ := u
  dsimp only at *
  have HU : Shut (unOne ⟨g, i, t, s⟩ = (decide (1 ≤ g) && decide (g ≤ 100000) && decide (0 ≤ i) && decide (i ≤ 5) && decide ((t.size : Int) ≤ 200) && decide (0 ≤ s) && decide (s ≤ 4294967295))) := ⟨by
    unfold unOne inI
    rw [show decide ((t.size : Int) ≤ 200) = decide (t.size ≤ 200) by simp only [decide_eq_decide]; omega]
    simp only [Bool.and_assoc]⟩
  generalize unOne ⟨g, i, t, s⟩ = R at HU ⊢
  by_cases h0 : 1 ≤ g
  case neg =>
    have HE : Shut (R = false) := ⟨by rw [HU.out]; simp [*]⟩
    go_enter Tryd.func42, Tryd.ntmps42
    go_wp2_with fail
    go_ret
    exact ⟨by rw [HE.out]; rfl, HS0.out.bel⟩
  by_cases h1 : g ≤ 100000
  case neg =>
    have HE : Shut (R = false) := ⟨by rw [HU.out]; simp [*]⟩
    go_enter Tryd.func42, Tryd.ntmps42
    go_wp2_with fail
    go_ret
    exact ⟨by rw [HE.out]; rfl, HS0.out.bel⟩
  by_cases h2 : 0 ≤ i
  case neg =>
    have HE : Shut (R = false) := ⟨by rw [HU.out]; simp [*]⟩
    go_enter Tryd.func42, Tryd.ntmps42
    go_wp2_with fail
    go_ret
    exact ⟨by rw [HE.out]; rfl, HS0.out.bel⟩
  by_cases h3 : i ≤ 5
  case neg =>
    have HE : Shut (R = false) := ⟨by rw [HU.out]; simp [*]⟩
    go_enter Tryd.func42, Tryd.ntmps42
    go_wp2_with fail
    go_ret
    exact ⟨by rw [HE.out]; rfl, HS0.out.bel⟩
  by_cases h4 : (t.size : Int) ≤ 200
  case neg =>
    have HE : Shut (R = false) := ⟨by rw [HU.out]; simp [*]⟩
    go_enter Tryd.func42, Tryd.ntmps42
    go_wp2_with fail
    go_ret
    exact ⟨by rw [HE.out]; rfl, HS0.out.bel⟩
  by_cases h5 : 0 ≤ s
  case neg =>
    have HE : Shut (R = false) := ⟨by rw [HU.out]; simp [*]⟩
    go_enter Tryd.func42, Tryd.ntmps42
    go_wp2_with fail
    go_ret
    exact ⟨by rw [HE.out]; rfl, HS0.out.bel⟩
  by_cases h6 : s ≤ 4294967295
  case neg =>
    have HE : Shut (R = false) := ⟨by rw [HU.out]; simp [*]⟩
    go_enter Tryd.func42, Tryd.ntmps42
    go_wp2_with fail
    go_ret
    exact ⟨by rw [HE.out]; rfl, HS0.out.bel⟩
  have HE : Shut (R = true) := ⟨by rw [HU.out]; simp [*]⟩
  go_enter Tryd.func42, Tryd.ntmps42
  go_wp2_with fail
  go_ret
  exact ⟨by rw [HE.out]; rfl, HS0.out.bel⟩
set_option maxRecDepth 100000 in
set_option maxHeartbeats 4000000 in
theorem implHostOk (H : HM) (a : Option Addr) (cap : Nat) (w : World) (hr : UnRow w a H.us) (hl : H.us.length ≤ 9000000) :
    Calls Tryd.prog 16 #[hov H a cap] w fun e w' => e = .returned (.bool (hostOk H)) ∧ Below w.heap.size w w' := by
  have HS0 := Shut.mk ((SL.start w).new #[.int .i64 H.id, .bool H.up, .slice a H.us.length cap] 26)
  have HR := Shut.mk hr
  clear hr
  obtain ⟨id, up, us⟩ := H
  show Calls Tryd.prog 16 #[.agg #[.int .i64 id, .bool up, .slice a us.length cap]] w fun e w' => e = .returned (.bool (unitsOk us && inI id 1 7)) ∧ Below w.heap.size w w'
  dsimp only at *
  obtain ⟨R, hR⟩ : ∃ R, R = (unitsOk us && inI id 1 7) := ⟨_, rfl⟩
  rw [← hR]
  have HRR := Shut.mk hR
  clear hR
  obtain ⟨n, hn⟩ : ∃ n, n = us.length := ⟨_, rfl⟩
  have HN := Shut.mk hn
  rw [← hn] at HS0 hl ⊢
  clear hn
  have HI : Shut (inI id 1 7 = (decide (1 ≤ id) && decide (id ≤ 7))) := ⟨rfl⟩
  go_enter Tryd.func16, Tryd.ntmps16
  go_upto_region 1 with fail
  refine wp_shade (fun W => SL w W [bxS w.heap.size [.int .i64 id, .bool up, .slice a n cap]]) HS0.out ?_
  intro W0 hW
  have HW := Shut.mk hW
  clear HS0 hW
  have x0 := (HW.out.bx 0 rfl 0 _ rfl).1
  have x2 := (HW.out.bx 0 rfl 2 _ rfl).1
  by_cases h1 : id < 1
  case pos =>
    have HE : Shut (R = false) := ⟨by rw [HRR.out, HI.out]; simp; omega⟩
    go_wp2_with fail
    go_ret
    exact ⟨by rw [HE.out]; rfl, HW.out.bel⟩
  by_cases h2 : 7 < id
  case pos =>
    have HE : Shut (R = false) := ⟨by rw [HRR.out, HI.out]; simp; omega⟩
    go_wp2_with fail
    go_ret
    exact ⟨by rw [HE.out]; rfl, HW.out.bel⟩
  replace HRR : Shut (R = unitsOk us) := ⟨by rw [HRR.out, show inI id 1 7 = true by rw [HI.out]; simp; omega, Bool.and_true]⟩
  clear HI
  go_wp2_with fail
  clear x0 x2
  go_loopw [16] (fun i wr => ∃ (k : Nat), i = .int .i64 k ∧ k ≤ n ∧ Shut (∀ j, j < k → unAt us j = true) ∧ Shut (SL w wr [bxS w.heap.size [.int .i64 id, .bool up, .slice a n cap]])) (fun i _ => n - (intOf i).toNat)
  case atStart => exact ⟨0, rfl, Nat.zero_le _, ⟨fun j hj => by omega⟩, HW⟩
  case round =>
    clear HW
    obtain ⟨k, rfl, hk, HG, HW⟩ := hrel
    by_cases hlt : k < n
    · have hku : k < us.length := by rw [← HN.out]; exact hlt
      obtain ⟨b, off, rfl, lb, hc⟩ := UnRow.at (HR.out.stays HW.out.bel) (by omega)
      obtain ⟨d0, d1, d2, d3⟩ := hc k hku
      obtain ⟨u, hu⟩ : ∃ u, u = us[k] := ⟨_, rfl⟩
      rw [← hu] at d0 d1 d2 d3
      have HU : Shut (us.getD k default = u) := ⟨(getD_un us k hku).trans hu.symm⟩
      have k0 : (0 : Int) ≤ (k : Int) := by omega
      have k1 : (k : Int) < (n : Int) := by omega
      have HC := Shut.mk hc
      have HS := Shut.mk (HW.out.new #[.int .i64 u.group, .int .i64 u.index, .string u.text, .int .i64 u.sum] 32)
      clear hc hu
      go_upto_region 6 with fail
      obtain ⟨bb, hbb⟩ : ∃ q, q = wr.heap.size := ⟨_, rfl⟩
      rw [← hbb] at HS
      rw [← hbb] at lb
      refine wp_shade (fun W => SL w W [bxS bb [.int .i64 u.group, .int .i64 u.index, .string u.text, .int .i64 u.sum], bxS w.heap.size [.int .i64 id, .bool up, .slice (some ⟨b, off, none⟩) n cap]] ∧ Below wr.heap.size wr W) ⟨HS.out, (Below.refl _ _).alloc (Nat.le_refl _) _⟩ ?_
      intro W hW
      rw [← hbb]
      have H := Shut.mk hW.1
      have HBW := Shut.mk hW.2
      have HBB := Shut.mk hbb
      have lw : w.heap.size < W.heap.size := (hW.1.at 1 rfl).1
      have lq : bb < W.heap.size := (hW.1.at 0 rfl).1
      have lbW : b < W.heap.size := Nat.lt_of_lt_of_le (by rw [← hbb]; exact lb) hW.2.size
      have g0 : ∀ X : Grow W, X.val.cell? ⟨bb, 0, none⟩ = some (.int .i64 u.group) := fun X => X.cell (hW.1.bx 0 rfl 0 _ rfl).1 lq
      have g1 : ∀ X : Grow W, X.val.cell? ⟨bb, 1, none⟩ = some (.int .i64 u.index) := fun X => X.cell (hW.1.bx 0 rfl 1 _ rfl).1 lq
      have g2 : ∀ X : Grow W, X.val.cell? ⟨bb, 2, none⟩ = some (.string u.text) := fun X => X.cell (hW.1.bx 0 rfl 2 _ rfl).1 lq
      have g3 : ∀ X : Grow W, X.val.cell? ⟨bb, 3, none⟩ = some (.int .i64 u.sum) := fun X => X.cell (hW.1.bx 0 rfl 3 _ rfl).1 lq
      have gx : ∀ X : Grow W, X.val.cell? ⟨w.heap.size, 2, none⟩ = some (.slice (some ⟨b, off, none⟩) n cap) := fun X => X.cell (hW.1.bx 1 rfl 2 _ rfl).1 lw
      have HGR : Shut (∀ X : Grow W, SL w X.val [bxS w.heap.size [.int .i64 id, .bool up, .slice (some ⟨b, off, none⟩) n cap]]) := ⟨fun X => (SL.tail H.out).below X.bel⟩
      have HNO : Shut (unAt us k = false → unitsOk us = false) := ⟨unitsOk_no hku⟩
      have HONE : Shut (unAt us k = (unOne u && (decide (k = 0) || unLt (us.getD (k - 1) default) u))) := ⟨by unfold unAt; rw [HU.out]⟩
      have HOK := Shut.mk (fun X => calls_grow (w := W) (fun W' (_ : Below W.heap.size W W') => implUnitOk u W') X)
      clear hW hbb d0 d1 d2 d3 HW HS
      cases hq1 : unOne u with
      | false =>
        rw [hq1] at HOK
        refine wp_region_grow (by kernel_rfl) (by kernel_rfl) ?_
        repeat (go_big_quiet_step (first | (go_at_call 42; with_reducible exact HOK.out _)))
        refine wpQuiet_nil ?_
        rintro _ ⟨X, rfl⟩
        go_wp2_with fail
        go_ret
        exact ⟨by rw [HRR.out, HNO.out (by rw [HONE.out]; simp [*])]; rfl, HGR.out X |>.bel⟩
      | true =>
        rw [hq1] at HOK
        by_cases hz : k = 0
        case pos =>
          have hz' : decide ((0 : Int) < (k : Int)) = false := by simp; omega
          refine wp_region_grow (by kernel_rfl) (by kernel_rfl) ?_
          repeat (go_big_quiet_step (first | (go_at_call 42; with_reducible exact HOK.out _)))
          refine wpQuiet_nil ?_
          rintro _ ⟨X, rfl⟩
          go_wp2_with fail
          go_roundw
          case rel => exact ⟨k + 1, by go_num, by omega, ⟨fun j hj => by rcases Nat.lt_succ_iff_lt_or_eq.1 hj with h | h; exact HG.out j h; subst h; rw [HONE.out]; simp [*]⟩, ⟨HGR.out X⟩⟩
          case measure => simp [intOf]; omega
        have hzd : decide (k = 0) = false := by simpa using hz
        have hz' : decide (0 < k) = true := by simp; omega
        have hz3 : 0 < k := by omega
        obtain ⟨e0, e1, e2, e3⟩ := HC.out (k - 1) (by omega)
        obtain ⟨y, hy⟩ : ∃ y, y = us[k - 1]'(by omega) := ⟨_, rfl⟩
        rw [← hy] at e0 e1 e2 e3
        have HY : Shut (us.getD (k - 1) default = y) := ⟨(getD_un us (k - 1) (by omega)).trans hy.symm⟩
        have p0 : ∀ X : Grow W, X.val.cell? ⟨b, off + (k - 1) * 4, none⟩ = some (.int .i64 y.group) := fun X => X.cell ((HBW.out.cell (p := ⟨b, off + (k - 1) * 4, none⟩) (by rw [← HBB.out]; exact lb)).trans e0) lbW
        have p1 : ∀ X : Grow W, X.val.cell? ⟨b, off + (k - 1) * 4 + 1, none⟩ = some (.int .i64 y.index) := fun X => X.cell ((HBW.out.cell (p := ⟨b, off + (k - 1) * 4 + 1, none⟩) (by rw [← HBB.out]; exact lb)).trans e1) lbW
        have p2 : ∀ X : Grow W, X.val.cell? ⟨b, off + (k - 1) * 4 + 2, none⟩ = some (.string y.text) := fun X => X.cell ((HBW.out.cell (p := ⟨b, off + (k - 1) * 4 + 2, none⟩) (by rw [← HBB.out]; exact lb)).trans e2) lbW
        have p3 : ∀ X : Grow W, X.val.cell? ⟨b, off + (k - 1) * 4 + 3, none⟩ = some (.int .i64 y.sum) := fun X => X.cell ((HBW.out.cell (p := ⟨b, off + (k - 1) * 4 + 3, none⟩) (by rw [← HBB.out]; exact lb)).trans e3) lbW
        have hk1 : (k : Int) - 1 = ((k - 1 : Nat) : Int) := by omega
        have hk2 : (0 : Int) ≤ ((k - 1 : Nat) : Int) := by omega
        have hk3 : ((k - 1 : Nat) : Int) < (n : Int) := by omega
        rw [HY.out] at HONE
        have HCM := Shut.mk (fun X => calls_grow (w := W) (fun W' (_ : Below W.heap.size W W') => implCmp y u W') X)
        have HNG := Shut.mk (cmpU_neg y u)
        generalize cmpU y u = cv at HCM HNG
        clear hy e0 e1 e2 e3 hz
        cases hal : unLt y u with
        | false =>
          have hcv : ¬ (cv < 0) := fun h => by have := HNG.out.1 h; rw [hal] at this; cases this
          have hcv2 : decide (0 ≤ cv) = true := by simp; omega
          have hcv3 : (0 : Int) ≤ cv := by omega
          rw [hal] at HONE
          refine wp_region_grow (by kernel_rfl) (by kernel_rfl) ?_
          repeat (go_big_quiet_step (first | (go_at_call 42; with_reducible exact HOK.out _) | (go_at_call 43; with_reducible exact HCM.out _)))
          refine wpQuiet_nil ?_
          rintro _ ⟨X, rfl⟩
          go_wp2_with fail
          go_ret
          exact ⟨by rw [HRR.out, HNO.out (by rw [HONE.out]; simp [*])]; rfl, HGR.out X |>.bel⟩
        | true =>
          have hcv := HNG.out.2 hal
          have hcv2 : decide (0 ≤ cv) = false := by simp; omega
          rw [hal] at HONE
          refine wp_region_grow (by kernel_rfl) (by kernel_rfl) ?_
          repeat (go_big_quiet_step (first | (go_at_call 42; with_reducible exact HOK.out _) | (go_at_call 43; with_reducible exact HCM.out _)))
          refine wpQuiet_nil ?_
          rintro _ ⟨X, rfl⟩
          go_wp2_with fail
          go_roundw
          case rel => exact ⟨k + 1, by go_num, by omega, ⟨fun j hj => by rcases Nat.lt_succ_iff_lt_or_eq.1 hj with h | h; exact HG.out j h; subst h; rw [HONE.out]; simp [*]⟩, ⟨HGR.out X⟩⟩
          case measure => simp [intOf]; omega
    · have e : k = n := by omega
      have HT : Shut (unitsOk us = true) := ⟨unitsOk_yes fun j hj => HG.out j (by have := HN.out; omega)⟩
      subst e
      go_wp2_with fail
      go_ret
      exact ⟨by rw [HRR.out, HT.out]; rfl, HW.out.bel⟩
end Go.Proofs.YtbanfccnmbmcfaaDoor
/- HpB: The program's own copyHost (written by gen/mkhpb.py). -/
namespace Go.Proofs.YtbanfccnmbmcfaaDoor
set_option maxRecDepth 100000
open Go.RowKit BigFrame
attribute [local go_sem ↓] Go.wp_at_zero Go.wp_at_succ

set_option maxRecDepth 100000 in
theorem implClone (s : ByteArray) (w : World) (hs : s.size ≤ 281474976710656) : Calls Tryd.prog 39 #[.string s] w fun e w' => e = .returned (.string s) ∧ Below w.heap.size w w' := by
  have HC := Shut.mk (fun W => Tryd.stringslite_Clone s W hs)
  go_enter Tryd.func39, Tryd.ntmps39
  go_wp2_with fail
  refine (HC.out _).mono ?_
  rintro e w1 ⟨rfl, hb⟩
  go_wp2_with fail
  go_ret
  exact ⟨rfl, hb⟩
set_option maxRecDepth 100000 in
set_option maxHeartbeats 4000000 in
theorem implCopyHost (H : HM) (a : Option Addr) (cap : Nat) (w : World) (hr : UnRow w a H.us) (hl : H.us.length ≤ 3000000) (hz : ∀ u ∈ H.us, u.text.size ≤ 1048576) :
    Calls Tryd.prog 34 #[hov H a cap] w fun e w' => HoPost H w e w' := by
  obtain ⟨i0, hin, hz0, hz1, hz2⟩ := info_parts infoUnit
  have HS0 := Shut.mk (((SL.start w).new #[.int .i64 H.id, .bool H.up, .slice a H.us.length cap] 26).new #[.int .i64 0, .bool false, .slice none 0 0] 26)
  simp only [World.size_alloc] at HS0
  have HR := Shut.mk hr
  have HZ := Shut.mk hz
  clear hr hz
  obtain ⟨id, up, us⟩ := H
  show Calls Tryd.prog 34 #[.agg #[.int .i64 id, .bool up, .slice a us.length cap]] w fun e w' => HoPost ⟨id, up, us⟩ w e w'
  dsimp only at *
  obtain ⟨n, hn⟩ : ∃ n, n = us.length := ⟨_, rfl⟩
  have HN := Shut.mk hn
  rw [← hn] at HS0 hl ⊢
  clear hn
  go_enter Tryd.func34, Tryd.ntmps34
  go_upto_region 1 with fail
  refine wp_shade (fun W => SL w W [bxS (w.heap.size + 1) [.int .i64 0, .bool false, .slice none 0 0], bxS w.heap.size [.int .i64 id, .bool up, .slice a n cap]]) HS0.out ?_
  intro W0 hW
  have HW := Shut.mk hW
  clear HS0 hW
  obtain ⟨W1, hmk, hown, hgr⟩ := run_make_own (P := Tryd.prog) W0 w.heap.size 24 32 i0 _ 4 Tryd.underlying24 hin hz0 hz1 .i64 .i64 n (by rw [hz2]; omega) (by unfold maxLen; omega) HW.out.bel.size
  have HO := Shut.mk (OwS.more (OwS.nil (ty := 32) (sz := 4) HW.out) (Below.refl _ _) hown hgr (.inr rfl))
  have x2 := (HW.out.bx 1 rfl 2 _ rfl).1
  have y2 := (HO.out.sl.bx 1 rfl 2 _ rfl).1
  obtain ⟨g0, hg0⟩ : ∃ q, q = W0.heap.size := ⟨_, rfl⟩
  rw [← hg0] at hmk HO
  clear hown hgr HW hg0
  go_upto_region 3 with fail
  clear x2 y2 hmk
  go_loopw [3, 13] (fun v9 i9 wr => ∃ (k : Nat), i9 = .int .i64 k ∧ k ≤ n ∧ Shut (OwS w wr [bxS (w.heap.size + 1) [.int .i64 0, .bool false, .slice none 0 0], bxS w.heap.size [.int .i64 id, .bool up, .slice a n cap]] 32 4 v9 k (unS (us.take k)))) (fun _ i9 _ => n - (intOf i9).toNat)
  case atStart => exact ⟨0, rfl, Nat.zero_le _, HO⟩
  case round =>
    clear HO
    obtain ⟨k, rfl, hk, HW⟩ := hrel
    obtain ⟨av, cv, rfl⟩ := own_row_slice HW.out.own
    by_cases hlt : k < n
    · have hku : k < us.length := by rw [← HN.out]; exact hlt
      obtain ⟨b, off, u, rfl, hu, lb, hc⟩ := un_at HR.out HW.out.sl.bel hku
      obtain ⟨d0, d1, d2, d3⟩ := hc wr (Below.refl _ _)
      have k0 : (0 : Int) ≤ (k : Int) := by omega
      have k1 : (k : Int) < (n : Int) := by omega
      have HUT : Shut (u.text.size ≤ 1048576) := ⟨by rw [hu]; exact HZ.out _ (List.getElem_mem hku)⟩
      have HNX : Shut (unS (us.take (k + 1)) = unS (us.take k) ++ [.int .i64 u.group, .int .i64 u.index, .string u.text, .int .i64 u.sum]) := ⟨by rw [List.take_succ_eq_append_getElem hku, ← hu, uns_app]; simp [unS, unC]⟩
      have HX := Shut.mk (HW.out.box #[.int .i64 u.group, .int .i64 u.index, .string u.text, .int .i64 u.sum] 32)
      obtain ⟨bb, hbb⟩ : ∃ q, q = wr.heap.size := ⟨_, rfl⟩
      rw [← hbb] at HX
      clear hc hu
      go_upto_region 5 with fail
      refine wp_shade (fun W => OwS w W (bxS bb [.int .i64 u.group, .int .i64 u.index, .string u.text, .int .i64 u.sum] :: [bxS (w.heap.size + 1) [.int .i64 0, .bool false, .slice none 0 0], bxS w.heap.size [.int .i64 id, .bool up, .slice (some ⟨b, off, none⟩) n cap]]) 32 4 (.slice av k cv) k (unS (us.take k))) HX.out ?_
      intro W2 hW
      rw [← hbb]
      have H2 := Shut.mk hW
      clear hW HX hbb d0 d1 d2 d3 HW
      have z2 := (H2.out.sl.bx 0 rfl 2 _ rfl).1
      go_upto_region 6 with (go_at_call 39; refine (implClone u.text _ (by have := HUT.out; omega)).mono ?_; rintro e w3 ⟨rfl, hb⟩; have H3 := Shut.mk (H2.out.below hb); obtain ⟨y2, y2z⟩ := H3.out.sl.bx 0 rfl 2 _ rfl; clear hb z2 H2)
      have H4 := Shut.mk (H3.out.put 0 rfl 2 (.string u.text) (by simp))
      simp only [List.set_cons_zero, List.set_cons_succ] at H4
      refine wp_shade (fun W => OwS w W (bxS bb [.int .i64 u.group, .int .i64 u.index, .string u.text, .int .i64 u.sum] :: [bxS (w.heap.size + 1) [.int .i64 0, .bool false, .slice none 0 0], bxS w.heap.size [.int .i64 id, .bool up, .slice (some ⟨b, off, none⟩) n cap]]) 32 4 (.slice av k cv) k (unS (us.take k))) H4.out ?_
      intro W4 hW
      have H5 := Shut.mk hW
      clear hW H4 H3 y2 y2z
      have z0 := (H5.out.sl.bx 0 rfl 0 _ rfl).1
      have z1 := (H5.out.sl.bx 0 rfl 1 _ rfl).1
      have z2 := (H5.out.sl.bx 0 rfl 2 _ rfl).1
      have z3 := (H5.out.sl.bx 0 rfl 3 _ rfl).1
      have lz : bb < W4.heap.size := (show WCells W4 bb _ from H5.out.sl.at 0 rfl).1
      have hown := H5.out.own
      have hbs := H5.out.sl.bel.size
      go_wp2_with (at_builtin; refine wpList_append_own_at _ rfl _ _ 24 rfl w.heap.size 32 i0 _ 4 40 Tryd.underlying24 hin hz0 hz1 hz2 rfl (by decide) _ _ _ rfl (hown.alloc _) ⟨W4.heap.size, 0, none⟩ 1 1 [.int .i64 u.group, .int .i64 u.index, .string u.text, .int .i64 u.sum] rfl rfl (World.news_of_block (cs := #[.int .i64 u.group, .int .i64 u.index, .string u.text, .int .i64 u.sum]) (t := 32) (fr := (0, 0)) (heap_alloc_new W4 _)) ?c2 ?c3 ?c4 ?c5 ?_)
      case c2 => simp [Value.oneCell']
      case c3 => unfold maxLen; omega
      case c4 => omega
      case c5 => first | omega | (simp; omega)
      intro v9 w9 ho hg _ hat
      have HL9 := Shut.mk (H5.out.more ((Below.refl _ _).alloc (Nat.le_refl _) _) ho hg (by simpa using hat)).tail
      rw [← HNX.out] at HL9
      clear ho hg hat hown hbs z0 z1 z2 z3 lz H5
      go_wp2_with fail
      go_roundw
      case rel => exact ⟨k + 1, by go_num, by omega, HL9⟩
      case measure => simp [intOf]; omega
    · obtain rfl : k = n := by omega
      rw [List.take_of_length_le (by have := HN.out; omega)] at HW
      obtain ⟨x2, x2z⟩ := HW.out.sl.bx 1 rfl 2 _ rfl
      have HP := Shut.mk (HW.out.put 1 rfl 2 (.slice av k cv) (by simp))
      simp only [List.set_cons_zero, List.set_cons_succ] at HP
      go_upto_region 9 with fail
      refine wp_shade (fun W' => OwS w W' [bxS (w.heap.size + 1) [.int .i64 0, .bool false, .slice none 0 0], bxS w.heap.size [.int .i64 id, .bool up, .slice av k cv]] 32 4 (.slice av k cv) k (unS us)) HP.out ?_
      intro W7 h7
      have H7 := Shut.mk h7
      clear h7 HP x2 x2z HW
      have z0 := (H7.out.sl.bx 1 rfl 0 _ rfl).1
      have z1 := (H7.out.sl.bx 1 rfl 1 _ rfl).1
      have z2 := (H7.out.sl.bx 1 rfl 2 _ rfl).1
      obtain ⟨r0, r0z⟩ := H7.out.sl.bx 0 rfl 0 _ rfl
      obtain ⟨r1, r1z⟩ := H7.out.sl.bx 0 rfl 1 _ rfl
      obtain ⟨r2, r2z⟩ := H7.out.sl.bx 0 rfl 2 _ rfl
      go_wp2_with fail
      have HE := Shut.mk ((((H7.out.put 0 rfl 0 (.int .i64 id) (by simp)).put 0 rfl 1 (.bool up) (by simp)).put 0 rfl 2 (.slice av k cv) (by simp)))
      obtain ⟨a8, c8, e8, hf8, hc8⟩ := HE.out.frw
      obtain ⟨rfl, rfl⟩ : av = a8 ∧ cv = c8 := by simpa using e8
      refine bodyPost_ret (v := .agg #[.int .i64 id, .bool up, .slice av k cv]) (by simp [results, Tryd.results34, go_sem, r0, r1, r2]) rfl ⟨av, cv, by rw [HN.out], hf8, by have := HN.out; show us.length ≤ cv; omega, HE.out.sl.bel⟩
end Go.Proofs.YtbanfccnmbmcfaaDoor
/- HpC: The program's own: a unit's key, keys and units that are compared, the place of a unit. -/
namespace Go.Proofs.YtbanfccnmbmcfaaDoor
set_option maxRecDepth 100000
open Go.RowKit BigFrame
attribute [local go_sem ↓] Go.wp_at_zero Go.wp_at_succ

theorem eqgKey (x y : Operand) (a b c d : Int) (W : World) : Sem.run Tryd.prog (eqGuard BinOp.eql 66 x y (.agg #[.int .i64 a, .int .i64 b]) (.agg #[.int .i64 c, .int .i64 d])) W = .ok () W := by kernel_rfl
theorem eqKey (a b c d : Int) (W : World) : Sem.run Tryd.prog (binOp BinOp.eql 66 (.agg #[.int .i64 a, .int .i64 b]) (.agg #[.int .i64 c, .int .i64 d])) W = .ok (.bool (a == c && b == d)) W := by
  rw [run_eql_struct, run_equalIn_agg W 9999 66 _ _ (by kernel_rfl) (by kernel_rfl)]
  simp [Op.eqFields, go_sem]
  by_cases h1 : a = c <;> by_cases h2 : b = d <;> simp [h1, h2]
set_option maxRecDepth 100000 in
theorem implKey (u : UnM) (w : World) : Calls Tryd.prog 61 #[unv u] w fun e w' => e = .returned (.agg #[.int .i64 u.group, .int .i64 u.index]) ∧ Below w.heap.size w w' := by
  have HS0 := Shut.mk (((SL.start w).new #[.int .i64 u.group, .int .i64 u.index, .string u.text, .int .i64 u.sum] 32).new #[.int .i64 0, .int .i64 0] 66)
  simp only [World.size_alloc] at HS0
  go_enter Tryd.func61, Tryd.ntmps61
  go_upto_region 1 with fail
  refine wp_shade (fun W => SL w W [bxS (w.heap.size + 1) [.int .i64 0, .int .i64 0], bxS w.heap.size [.int .i64 u.group, .int .i64 u.index, .string u.text, .int .i64 u.sum]]) HS0.out ?_
  intro W hW
  have H := Shut.mk hW
  clear HS0 hW
  have x0 := (H.out.bx 1 rfl 0 _ rfl).1
  have x1 := (H.out.bx 1 rfl 1 _ rfl).1
  obtain ⟨r0, r0z⟩ := H.out.bx 0 rfl 0 _ rfl
  obtain ⟨r1, r1z⟩ := H.out.bx 0 rfl 1 _ rfl
  go_wp2_with fail
  have HE := Shut.mk ((H.out.put 0 rfl 0 (.int .i64 u.group) (by simp)).put 0 rfl 1 (.int .i64 u.index) (by simp))
  exact bodyPost_ret (v := .agg #[.int .i64 u.group, .int .i64 u.index]) (by simp [results, Tryd.results61, go_sem, r0, r1]) rfl ⟨rfl, HE.out.bel⟩
set_option maxRecDepth 100000 in
set_option maxHeartbeats 1000000 in
theorem testKey (u : UnM) (kb : Nat) (g i : Int) (w : World) (h0 : w.cell? ⟨kb, 0, none⟩ = some (.int .i64 g)) (h1 : w.cell? ⟨kb, 1, none⟩ = some (.int .i64 i)) (hl : kb < w.heap.size) :
    Calls Tryd.prog 60 #[unv u, .pointer (some ⟨kb, 0, none⟩)] w fun e w' => e = .returned (.bool (keyIs g i u)) ∧ Below w.heap.size w w' := by
  have HS0 := Shut.mk ((SL.start w).new #[.int .i64 u.group, .int .i64 u.index, .string u.text, .int .i64 u.sum] 32)
  have HQ : Shut (keyIs g i u = (u.group == g && u.index == i)) := ⟨rfl⟩
  have hek := eqKey u.group u.index g i
  have heg := fun x y => eqgKey x y u.group u.index g i
  have HBW := Shut.mk ((Below.refl w.heap.size w).alloc (Nat.le_refl _) (.cells #[.int .i64 u.group, .int .i64 u.index, .string u.text, .int .i64 u.sum] 32))
  generalize keyIs g i u = R at HQ ⊢
  rw [← HQ.out] at hek
  go_enter Tryd.func60, Tryd.ntmps60
  go_upto_region 1 with fail
  refine wp_shade (fun W => SL w W [bxS w.heap.size [.int .i64 u.group, .int .i64 u.index, .string u.text, .int .i64 u.sum]]) HS0.out ?_
  intro W hW
  have H := Shut.mk hW
  clear HS0 hW
  have lq : w.heap.size < W.heap.size := (H.out.at 0 rfl).1
  have lk : kb < W.heap.size := Nat.lt_of_lt_of_le hl H.out.bel.size
  have g0 : ∀ X : Grow W, X.val.cell? ⟨w.heap.size, 0, none⟩ = some (.int .i64 u.group) := fun X => X.cell (H.out.bx 0 rfl 0 _ rfl).1 lq
  have g1 : ∀ X : Grow W, X.val.cell? ⟨w.heap.size, 1, none⟩ = some (.int .i64 u.index) := fun X => X.cell (H.out.bx 0 rfl 1 _ rfl).1 lq
  have g2 : ∀ X : Grow W, X.val.cell? ⟨w.heap.size, 2, none⟩ = some (.string u.text) := fun X => X.cell (H.out.bx 0 rfl 2 _ rfl).1 lq
  have g3 : ∀ X : Grow W, X.val.cell? ⟨w.heap.size, 3, none⟩ = some (.int .i64 u.sum) := fun X => X.cell (H.out.bx 0 rfl 3 _ rfl).1 lq
  have p0 : ∀ X : Grow W, X.val.cell? ⟨kb, 0, none⟩ = some (.int .i64 g) := fun X => X.cell ((H.out.bel.cell (p := ⟨kb, 0, none⟩) hl).trans h0) lk
  have p1 : ∀ X : Grow W, X.val.cell? ⟨kb, 1, none⟩ = some (.int .i64 i) := fun X => X.cell ((H.out.bel.cell (p := ⟨kb, 1, none⟩) hl).trans h1) lk
  have HK := Shut.mk (fun X => calls_grow (w := W) (fun W' (_ : Below W.heap.size W W') => implKey u W') X)
  have HGR : Shut (∀ X : Grow W, Below w.heap.size w X.val) := ⟨fun X => (H.out.below X.bel).bel⟩
  clear h0 h1
  refine wp_region_grow (by kernel_rfl) (by kernel_rfl) ?_
  repeat (go_big_quiet_step (first | (go_at_call 61; with_reducible exact HK.out _)))
  refine wpQuiet_nil ?_
  rintro _ ⟨X, rfl⟩
  go_wp2_with fail
  go_ret
  exact ⟨rfl, HGR.out X⟩
set_option maxRecDepth 100000 in
set_option maxHeartbeats 1000000 in
theorem indexKey (us : List UnM) (a : Option Addr) (n cap kb : Nat) (g i : Int) (w : World) (hr : UnRow w a us) (hn : n = us.length) (hl : n ≤ 9000000) (h0 : w.cell? ⟨kb, 0, none⟩ = some (.int .i64 g)) (h1 : w.cell? ⟨kb, 1, none⟩ = some (.int .i64 i)) (hk : kb < w.heap.size) :
    Calls Tryd.prog 59 #[.slice a n cap, .func (.func 60) #[] #[.pointer (some ⟨kb, 0, none⟩)]] w fun e w' => e = .returned (.int .i64 (atN us g i)) ∧ Below w.heap.size w w' := by
  obtain ⟨R, hR⟩ : ∃ R, R = atN us g i := ⟨_, rfl⟩
  rw [← hR]
  have HR := Shut.mk hR
  have HT := Shut.mk hr
  have HN := Shut.mk hn
  have HCC : Shut (∀ (W : World) (u : UnM), Below w.heap.size w W → Calls Tryd.prog 60 #[unv u, .pointer (some ⟨kb, 0, none⟩)] W fun e w' => e = .returned (.bool (keyIs g i u)) ∧ Below W.heap.size W w') := ⟨fun W u hb => testKey u kb g i W ((hb.cell (p := ⟨kb, 0, none⟩) hk).trans h0) ((hb.cell (p := ⟨kb, 1, none⟩) hk).trans h1) (Nat.lt_of_lt_of_le hk hb.size)⟩
  clear hR hr hn h0 h1
  go_enter Tryd.func59, Tryd.ntmps59
  go_wp2_with fail
  go_loopw [8] (fun iv wr => ∃ k : Nat, iv = .int .i64 k ∧ k ≤ n ∧ Shut (∀ j (hj : j < us.length), j < k → (us[j].group == g && us[j].index == i) = false) ∧ Shut (Below w.heap.size w wr)) (fun iv _ => n - (intOf iv).toNat)
  case atStart => exact ⟨0, rfl, Nat.zero_le _, ⟨fun _ _ h => absurd h (Nat.not_lt_zero _)⟩, ⟨Below.refl _ _⟩⟩
  case round =>
    obtain ⟨k, rfl, hk, HG, HW⟩ := hrel
    by_cases hlt : k < n
    case pos =>
      have hku : k < us.length := by have := HN.out; omega
      have k0 : (0 : Int) ≤ (k : Int) := by omega
      have k1 : (k : Int) < (n : Int) := by omega
      obtain ⟨b, off, rfl, lb, hc⟩ := UnRow.at (HT.out.stays HW.out) (by omega)
      obtain ⟨c0, c1, c2, c3⟩ := hc k hku
      have HF : Shut ((us[k].group == g && us[k].index == i) = true → R = (k : Int)) := ⟨fun h => HR.out.trans (atN_found hku h HG.out)⟩
      have HNX : Shut ((us[k].group == g && us[k].index == i) = false → ∀ j (hj : j < us.length), j < k + 1 → (us[j].group == g && us[j].index == i) = false) := ⟨fun h j hj hjk => by
        rcases Nat.lt_succ_iff_lt_or_eq.1 hjk with e | e
        · exact HG.out j hj e
        · subst e; exact h⟩
      have HCK := Shut.mk (HCC.out wr us[k] HW.out)
      unfold keyIs at HCK
      obtain ⟨u, hu⟩ : ∃ u, u = us[k] := ⟨_, rfl⟩
      rw [← hu] at c0 c1 c2 c3 HF HNX HCK
      obtain ⟨q, hq⟩ : ∃ q, q = (u.group == g && u.index == i) := ⟨_, rfl⟩
      rw [← hq] at HF HNX HCK
      clear hc hu hq
      cases q with
      | true =>
        have HE := Shut.mk (HF.out rfl)
        go_wp2_with (go_at_call 60; refine HCK.out.mono ?_; rintro e w1 ⟨rfl, hb1⟩; have HB1 := Shut.mk (HW.out.trans (hb1.mono HW.out.size)); clear hb1)
        go_ret
        exact ⟨by rw [HE.out]; rfl, HB1.out⟩
      | false =>
        have HE := Shut.mk (HNX.out rfl)
        go_wp2_with (go_at_call 60; refine HCK.out.mono ?_; rintro e w1 ⟨rfl, hb1⟩; have HB1 := Shut.mk (HW.out.trans (hb1.mono HW.out.size)); clear hb1)
        go_roundw
        case rel => exact ⟨k + 1, by go_num, by omega, HE, HB1⟩
        case measure => simp [intOf]; omega
    case neg =>
      have k1 : ¬ (k : Int) < (n : Int) := by omega
      have HE : Shut (R = -1) := ⟨HR.out.trans (atN_none fun j hj => HG.out j hj (by have := HN.out; omega))⟩
      go_wp2_with fail
      go_ret
      exact ⟨by rw [HE.out]; rfl, HW.out⟩
set_option maxRecDepth 100000 in
set_option maxHeartbeats 1000000 in
theorem implAt (H : HM) (a : Option Addr) (cap : Nat) (g i : Int) (w : World) (hr : UnRow w a H.us) (hl : H.us.length ≤ 9000000) :
    Calls Tryd.prog 37 #[hov H a cap, .agg #[.int .i64 g, .int .i64 i]] w fun e w' => e = .returned (.int .i64 (atN H.us g i)) ∧ Below w.heap.size w w' := by
  have HS0 := Shut.mk (((SL.start w).new #[.int .i64 H.id, .bool H.up, .slice a H.us.length cap] 26).new #[.int .i64 g, .int .i64 i] 66)
  simp only [World.size_alloc] at HS0
  have HR := Shut.mk hr
  clear hr
  obtain ⟨id, up, us⟩ := H
  dsimp only [hov] at *
  have HIX : Shut (∀ W, SL w W [bxS (w.heap.size + 1) [.int .i64 g, .int .i64 i], bxS w.heap.size [.int .i64 id, .bool up, .slice a us.length cap]] → Calls Tryd.prog 59 #[.slice a us.length cap, .func (.func 60) #[] #[.pointer (some ⟨w.heap.size + 1, 0, none⟩)]] W fun e w' => e = .returned (.int .i64 (atN us g i)) ∧ Below W.heap.size W w') := ⟨fun W h => indexKey us a us.length cap (w.heap.size + 1) g i W (HR.out.stays h.bel) rfl hl (h.bx 0 rfl 0 _ rfl).1 (h.bx 0 rfl 1 _ rfl).1 (h.at 0 rfl).1⟩
  generalize atN us g i = R at HIX ⊢
  generalize us.length = n at HS0 HIX ⊢
  go_enter Tryd.func37, Tryd.ntmps37
  go_upto_region 1 with fail
  refine wp_shade (fun W => SL w W [bxS (w.heap.size + 1) [.int .i64 g, .int .i64 i], bxS w.heap.size [.int .i64 id, .bool up, .slice a n cap]]) HS0.out ?_
  intro W hW
  have H := Shut.mk hW
  clear HS0 hW
  have x2 := (H.out.bx 1 rfl 2 _ rfl).1
  go_wp2_with (go_at_call 59; refine (HIX.out _ H.out).mono ?_; rintro e w1 ⟨rfl, hb1⟩; have HB1 := Shut.mk (H.out.below hb1).bel; clear hb1)
  go_ret
  exact ⟨rfl, HB1.out⟩
end Go.Proofs.YtbanfccnmbmcfaaDoor
/- HpD: The library's slices.Delete of one unit in a row of one's own; the program's own DropUnit (written by gen/mkhpd.py). -/
namespace Go.Proofs.YtbanfccnmbmcfaaDoor
set_option maxRecDepth 100000
open Go.RowKit BigFrame
attribute [local go_sem ↓] Go.wp_at_zero Go.wp_at_succ

abbrev zeroU : Array Value := #[.int .i64 0, .int .i64 0, .string ⟨#[]⟩, .int .i64 0]
theorem zeroU_one (m : Nat) : ∀ v ∈ (Builtin.zeroCells zeroU m).toList, v.oneCell' = true := by
  intro v hv
  unfold Builtin.zeroCells at hv
  simp only [Array.toList_map, List.mem_map] at hv
  obtain ⟨i, -, rfl⟩ := hv
  have : i % 4 < 4 := Nat.mod_lt _ (by decide)
  generalize i % 4 = q at this
  show (zeroU[q]!).oneCell' = true
  match q, this with
  | 0, _ => rfl
  | 1, _ => rfl
  | 2, _ => rfl
  | 3, _ => rfl
theorem zeroU_len (m : Nat) : (Builtin.zeroCells zeroU m).toList.length = m * 4 := by
  unfold Builtin.zeroCells
  simp
theorem clear_unit (g o c : Nat) (W : World) (hc : ∀ j, j < 4 → (W.cell? ⟨g, o + j, none⟩).isSome = true ∧ W.frozen? ⟨g, o + j, none⟩ = false) : Sem.run Tryd.prog (Builtin.clear_ #[24] 0 #[.slice (some ⟨g, o, none⟩) 1 c]) W = .ok (.tuple #[]) (W.setCells g o (Builtin.zeroCells zeroU 1).toList) := by
  have hz : ∀ w, Sem.run Tryd.prog (zeroValue 32) w = .ok (.agg zeroU) w := fun w => by kernel_rfl
  have hs := run_storeCells_cells (P := Tryd.prog) g o (Builtin.zeroCells zeroU 1).toList 0 W (fun j hj => by rw [Nat.add_zero]; exact (hc j (by rw [zeroU_len] at hj; omega)).1) (fun j hj => by rw [Nat.add_zero]; exact (hc j (by rw [zeroU_len] at hj; omega)).2) (zeroU_one 1)
  unfold Builtin.clear_
  simp [go_sem, hz, Value.cells, hs]
set_option maxRecDepth 100000 in
set_option maxHeartbeats 4000000 in
theorem deleteUnit (us : List UnM) (gc n cc k lo hi : Nat) (W : World) (hF : FRw W (some ⟨gc, 0, none⟩) (unS us) lo hi) (hn : n = us.length) (hk : k < n) (hcn : n ≤ cc) :
    Calls Tryd.prog 41 #[.slice (some ⟨gc, 0, none⟩) n cc, .int .i64 k, .int .i64 ((k : Int) + 1)] W fun e w' => e = .returned (.slice (some ⟨gc, 0, none⟩) (n - 1) cc) ∧ FRw w' (some ⟨gc, 0, none⟩) (unS (us.take k ++ us.drop (k + 1))) lo hi ∧ Turned W w' lo hi := by
  obtain ⟨i0, hin, hz0, hz1, hz2⟩ := info_parts infoUnit
  obtain ⟨hlo, hhi, hwc0⟩ : lo ≤ gc ∧ gc < hi ∧ WCells W gc (unS us) := by
    rcases hF with ⟨e, _⟩ | ⟨q, e, h1, h2, h3⟩
    · cases e
    · cases e; exact ⟨h1, h2, h3⟩
  have HWC := Shut.mk hwc0
  have HN := Shut.mk hn
  have HB := Shut.mk (And.intro hlo hhi)
  clear hF hwc0 hlo hhi hn
  have k0 : (0 : Int) ≤ (k : Int) := by omega
  have k1 : (k : Int) < (n : Int) := by omega
  have k3 : (k : Int) + 1 ≤ (n : Int) := by omega
  have k4 : (k : Int) ≤ (cc : Int) := by omega
  have k5 : (0 : Int) ≤ (k : Int) + 1 := by omega
  have k6 : (n : Int) ≤ (cc : Int) := by omega
  have k7 : ((k : Int) == (k : Int) + 1) = false := by simp; omega
  have k8 : (k : Int) ≤ (k : Int) + 1 := by omega
  have k9 : ¬ (k : Int) = (k : Int) + 1 := by omega
  go_enter Tryd.func41, Tryd.ntmps41
  go_upto_region 5 with fail
  refine wp_region_set (fun j => decide (6 ≤ j)) (by kernel_rfl) ?_
  refine wpD_val (i := 0) (v := ?v0) rfl (by kernel_rfl) (by kernel_rfl) (by kernel_rfl) (by kernel_rfl) (fun _ _ _ h => h) (by rfl) ?hy0 ?rest0
  case hy0 => (intro x hx; go_simp; try with_reducible rfl)
  try simp only [Act.put, List.setIfInBounds_toArray, List.set_cons_zero, List.set_cons_succ]
  refine wpD_val (i := 1) (v := ?v1) rfl (by kernel_rfl) (by kernel_rfl) (by kernel_rfl) (by kernel_rfl) (fun _ _ _ h => h) (by rfl) ?hy1 ?rest1
  case hy1 => (intro x hx; go_simp; try with_reducible rfl)
  try simp only [Act.put, List.setIfInBounds_toArray, List.set_cons_zero, List.set_cons_succ]
  refine wpD_val (i := 2) (v := ?v2) rfl (by kernel_rfl) (by kernel_rfl) (by kernel_rfl) (by kernel_rfl) (fun _ _ _ h => h) (by rfl) ?hy2 ?rest2
  case hy2 => (intro x hx; go_simp; try with_reducible rfl)
  try simp only [Act.put, List.setIfInBounds_toArray, List.set_cons_zero, List.set_cons_succ]
  refine wpD_val (i := 3) (v := ?v3) rfl (by kernel_rfl) (by kernel_rfl) (by kernel_rfl) (by kernel_rfl) (fun _ _ _ h => h) (by rfl) ?hy3 ?rest3
  case hy3 => (intro x hx; go_simp; try with_reducible rfl)
  try simp only [Act.put, List.setIfInBounds_toArray, List.set_cons_zero, List.set_cons_succ]
  refine wpD_val (i := 4) (v := ?v4) rfl (by kernel_rfl) (by kernel_rfl) (by kernel_rfl) (by kernel_rfl) (fun _ _ _ h => h) (by rfl) ?hy4 ?rest4
  case hy4 => (intro x hx; go_simp; try with_reducible rfl)
  try simp only [Act.put, List.setIfInBounds_toArray, List.set_cons_zero, List.set_cons_succ]
  obtain ⟨sa, hsa⟩ : ∃ ad : Addr, (if cc = k + 1 then some (⟨gc, 0, none⟩ : Addr) else some ⟨gc, (k + 1) * 4, none⟩) = some ad := by split <;> exact ⟨_, rfl⟩
  have HSA := Shut.mk hsa
  clear hsa
  refine wpD_val (i := 5) (v := .slice (some sa) (n - (k + 1)) (cc - (k + 1))) rfl (by kernel_rfl) (by kernel_rfl) (by kernel_rfl) (by kernel_rfl) (fun _ _ _ h => h) (by rfl) ?hy5 ?rest5
  case hy5 => (intro x hx; go_simp; first | done | (rw [HSA.out]))
  try simp only [Act.put, List.setIfInBounds_toArray, List.set_cons_zero, List.set_cons_succ]
  refine wpD_tail (by kernel_rfl) ?_
  intro x5 hx5
  have hwc : WCells x5 gc (unS us) := (WCells.grow HWC.out (Below.drew (Below.refl _ _))).grow hx5
  have HT5 : Shut (Turned W x5 lo hi) := ⟨Turned.of_below (Below.trans (Below.drew (Below.refl W.heap.size W)) (show Below W.heap.size W.drew x5 from hx5)) lo hi⟩
  have hsrc : Src Tryd.prog i0.size 24 (.slice (some sa) (n - (k + 1)) (cc - (k + 1))) (n - (k + 1)) (unS (us.drop (k + 1))) x5 := by
    refine Src.ofSlice x5 Tryd.underlying24 sa _ _ _ ?_ ?_ (uns_one _)
    · rw [unS_len, hz1, List.length_drop, HN.out]
    · intro j u hj
      have hjl := (List.getElem?_eq_some_iff.1 hj).1
      rw [unS_len, List.length_drop] at hjl
      have e1 : unS us = unS (us.take (k + 1)) ++ unS (us.drop (k + 1)) := by rw [← uns_app, List.take_append_drop]
      have l1 : (unS (us.take (k + 1))).length = (k + 1) * 4 := by rw [unS_len, List.length_take, Nat.min_eq_left (by have := HN.out; omega)]
      have e2 : (unS us)[(k + 1) * 4 + j]? = some u := by rw [e1, List.getElem?_append_right (by omega), l1, show (k + 1) * 4 + j - (k + 1) * 4 = j by omega]; exact hj
      have hne : ¬ cc = k + 1 := by have := HN.out; omega
      have es : sa = ⟨gc, (k + 1) * 4, none⟩ := by have q := HSA.out; rw [if_neg hne] at q; exact (Option.some.inj q).symm
      rw [es, show (⟨gc, (k + 1) * 4, none⟩ : Addr).add j = ⟨gc, (k + 1) * 4 + j, none⟩ by cases j <;> simp [Addr.add]]
      exact (hwc.2 _ _ e2).1
  have hlen : (unS us).length = us.length * 4 := unS_len us
  have hap : ∀ ty, (Builtin.append_ #[24, 24] ty #[.slice (some ⟨gc, 0, none⟩) k cc, .slice (some sa) (n - (k + 1)) (cc - (k + 1))]).run Tryd.prog x5 = .ok (.slice (some ⟨gc, 0, none⟩) (k + (n - (k + 1))) cc) (x5.setCells gc (0 + k * 4) (unS (us.drop (k + 1)))) := fun ty => by
    have q := run_append_room_src (P := Tryd.prog) (w := x5) 24 24 ty 32 i0 Tryd.underlying24 hin gc 0 k cc (.slice (some sa) (n - (k + 1)) (cc - (k + 1))) (n - (k + 1)) (unS (us.drop (k + 1))) hsrc (by omega) (fun j hj => ?_) (fun j hj => ?_)
    · rw [hz1] at q
      exact q
    · rw [unS_len, List.length_drop] at hj
      rw [hz1, (hwc.2 (0 + k * 4 + j) _ (List.getElem?_eq_getElem (by have := HN.out; omega))).1]
      rfl
    · rw [unS_len, List.length_drop] at hj
      rw [hz1]
      exact (hwc.2 (0 + k * 4 + j) _ (List.getElem?_eq_getElem (by have := HN.out; omega))).2
  have HY : Shut (∃ R, WCells (x5.setCells gc (0 + k * 4) (unS (us.drop (k + 1)))) gc (unS (us.take k ++ us.drop (k + 1)) ++ R) ∧ R.length = 4) := ⟨by
    obtain ⟨R, hR⟩ := uns_shift us k (by have := HN.out; omega)
    have q := hwc.setW (k * 4) (unS (us.drop (k + 1))) (by rw [unS_len, unS_len, List.length_drop]; have := HN.out; omega)
    have q2 := congrArg List.length hR
    rw [hR] at q
    rw [setCells_setW, Nat.zero_add]
    refine ⟨R, q, ?_⟩
    rw [setL_len, List.length_append, unS_len, unS_len, List.length_append, List.length_take, List.length_drop] at q2
    have := HN.out
    omega⟩
  have HT6 : Shut (Turned W (x5.setCells gc (0 + k * 4) (unS (us.drop (k + 1)))) lo hi) := ⟨HT5.out.trans (by rw [setCells_setW]; exact turned_setW x5 gc _ _ HB.out.1 HB.out.2)⟩
  obtain ⟨y5, hy5⟩ : ∃ q, q = x5.setCells gc (0 + k * 4) (unS (us.drop (k + 1))) := ⟨_, rfl⟩
  rw [← hy5] at hap HY HT6
  obtain ⟨nn, hnn⟩ : ∃ q, q = k + (n - (k + 1)) := ⟨_, rfl⟩
  rw [← hnn] at hap
  have HNN : Shut (nn = n - 1 ∧ nn = (us.take k ++ us.drop (k + 1)).length) := ⟨⟨by omega, by rw [hnn, List.length_append, List.length_take, List.length_drop, ← HN.out, Nat.min_eq_left (by omega)]⟩⟩
  have n1 : (nn : Int) ≤ (n : Int) := by omega
  have n2 : n - nn = 1 := by omega
  have n3 : ¬ cc = nn := by omega
  have n4 : (0 : Int) ≤ (nn : Int) := by omega
  clear hy5 hnn hwc hsrc hlen hx5 HT5
  refine wpA_here (v := .slice (some ⟨gc, 0, none⟩) nn cc) (y := y5) (i := 6) (by kernel_rfl) rfl (by rfl) (run_append_op rfl rfl rfl hap) ?_
  try simp only [Act.put, List.setIfInBounds_toArray, List.set_cons_zero, List.set_cons_succ]
  refine wpA_val (i := 7) (v := .slice (some ⟨gc, 0, none⟩) nn cc) rfl (by kernel_rfl) (by kernel_rfl) (by kernel_rfl) (fun _ _ _ h => h) (by rfl) (fun x => by go_simp) ?_
  simp only [Act.put, List.setIfInBounds_toArray, List.set_cons_zero]
  refine wpA_done (by kernel_rfl) ?_ _
  obtain ⟨R, hR⟩ : ∃ R, WCells y5 gc (unS (us.take k ++ us.drop (k + 1)) ++ R) ∧ R.length = 4 := HY.out
  have HRR := Shut.mk hR
  have hcl := clear_unit gc (nn * 4) (cc - nn) y5 (fun j hj => by
    have hl : (unS (us.take k ++ us.drop (k + 1))).length = nn * 4 := by rw [unS_len, ← HNN.out.2]
    have q := HRR.out.1.2 (nn * 4 + j) _ (List.getElem?_eq_getElem (by rw [List.length_append, hl]; have := HRR.out.2; omega))
    exact ⟨by rw [q.1]; rfl, q.2⟩)
  have HF : Shut (FRw (y5.setCells gc (nn * 4) (Builtin.zeroCells zeroU 1).toList) (some ⟨gc, 0, none⟩) (unS (us.take k ++ us.drop (k + 1))) lo hi ∧ Turned W (y5.setCells gc (nn * 4) (Builtin.zeroCells zeroU 1).toList) lo hi) := ⟨by
    have hl : (unS (us.take k ++ us.drop (k + 1))).length = nn * 4 := by rw [unS_len, ← HNN.out.2]
    rw [setCells_setW]
    have q := HRR.out.1.setW (nn * 4) (Builtin.zeroCells zeroU 1).toList (by rw [List.length_append, hl, zeroU_len]; have := HRR.out.2; omega)
    rw [show nn * 4 = (unS (us.take k ++ us.drop (k + 1))).length + 0 by omega, setL_app] at q
    rw [show (unS (us.take k ++ us.drop (k + 1))).length + 0 = nn * 4 by omega] at q
    exact ⟨.inr ⟨gc, rfl, HB.out.1, HB.out.2, q.pre⟩, HT6.out.trans (turned_setW y5 gc _ _ HB.out.1 HB.out.2)⟩⟩
  clear hap hR
  generalize (Builtin.zeroCells zeroU 1).toList = Z at hcl HF
  go_wp2_with fail
  go_ret
  exact ⟨by rw [← HNN.out.1]; rfl, HF.out⟩
theorem frw_some {w : World} {a : Option Addr} {us : List UnM} {lo hi : Nat} (h : FRw w a (unS us) lo hi) (hp : 0 < us.length) : ∃ gc, a = some ⟨gc, 0, none⟩ := by
  rcases h with ⟨_, e⟩ | ⟨q, e, _⟩
  · have := congrArg List.length e
    rw [unS_len] at this
    simp at this
    omega
  · exact ⟨q, e⟩
set_option maxRecDepth 100000 in
set_option maxHeartbeats 4000000 in
theorem implDropUnit (H : HM) (a : Option Addr) (cap : Nat) (g i : Int) (w : World) (hr : UnRow w a H.us) (hl : H.us.length ≤ 1048576) (hz : unSum H.us ≤ 1048576) :
    Calls Tryd.prog 15 #[hov H a cap, .int .i64 g, .int .i64 i] w fun e w' => HbPost (dropU H g i) w e w' := by
  have HCP := Shut.mk (fun (W : World) (hb : Below w.heap.size w W) => implCopyHost H a cap W (hr.stays hb) (by omega) (fun u hu => by have := unSum_mem hu; omega))
  unfold HoPost at HCP
  clear hr hz
  obtain ⟨id, up, us⟩ := H
  obtain ⟨RR, hRR⟩ : ∃ q, q = dropU ⟨id, up, us⟩ g i := ⟨_, rfl⟩
  rw [← hRR]
  have HQ := Shut.mk hRR
  unfold dropU at HQ
  show Calls Tryd.prog 15 #[.agg #[.int .i64 id, .bool up, .slice a us.length cap], .int .i64 g, .int .i64 i] w fun e w' => HbPost RR w e w'
  dsimp only [hov] at *
  have HA : Shut (∀ (W : World) (b : Option Addr) (c : Nat), UnRow W b us → Calls Tryd.prog 37 #[.agg #[.int .i64 id, .bool up, .slice b us.length c], .agg #[.int .i64 g, .int .i64 i]] W fun e w' => e = .returned (.int .i64 (atN us g i)) ∧ Below W.heap.size W w') := ⟨fun W b c h => implAt ⟨id, up, us⟩ b c g i W h (by show us.length ≤ 9000000; omega)⟩
  obtain ⟨n, hn⟩ : ∃ n, n = us.length := ⟨_, rfl⟩
  have HN := Shut.mk hn
  rw [← hn] at HCP HA hl ⊢
  obtain ⟨ki, hki⟩ : ∃ q, q = atN us g i := ⟨_, rfl⟩
  rw [← hki] at HA
  have HK := Shut.mk hki
  clear hki hRR hn
  have HS0 := Shut.mk (((SL.start w).new #[.int .i64 id, .bool up, .slice a n cap] 26).new #[.int .i64 0, .bool false, .slice none 0 0] 26)
  simp only [World.size_alloc] at HS0
  go_enter Tryd.func15, Tryd.ntmps15
  go_upto_region 1 with fail
  refine wp_shade (fun W => SL w W [bxS (w.heap.size + 1) [.int .i64 0, .bool false, .slice none 0 0], bxS w.heap.size [.int .i64 id, .bool up, .slice a n cap]]) HS0.out ?_
  intro W0 hW
  have H := Shut.mk hW
  clear HS0 hW
  have x0 := (H.out.bx 1 rfl 0 _ rfl).1
  have x1 := (H.out.bx 1 rfl 1 _ rfl).1
  have x2 := (H.out.bx 1 rfl 2 _ rfl).1
  go_upto_region 2 with (go_at_call 34; refine (HCP.out _ H.out.bel).mono ?_; rintro e w1 ⟨ac, cc, rfl, hF, hcc, hb⟩; have HS1 := Shut.mk (H.out.add (s := rwS ac (unS us) W0.heap.size w1.heap.size) hb hF (rwS.loc _ _ _ _) (Nat.le_refl _) (Nat.le_refl _)); clear hF hb H x0 x1 x2)
  generalize W0.heap.size = lc at HS1
  obtain ⟨hc9, hhc⟩ : ∃ q, q = w1.heap.size := ⟨_, rfl⟩
  rw [← hhc] at HS1
  clear hhc
  obtain ⟨b6, hb6⟩ : ∃ q, q = w1.heap.size := ⟨_, rfl⟩
  refine wp_shade (fun W => SL w W [bxS b6 [.int .i64 id, .bool up, .slice ac n cc], rwS ac (unS us) lc hc9, bxS (w.heap.size + 1) [.int .i64 0, .bool false, .slice none 0 0], bxS w.heap.size [.int .i64 id, .bool up, .slice a n cap]]) (by rw [hb6]; exact HS1.out.new _ _) ?_
  intro W2 hW
  have H := Shut.mk hW
  rw [← hb6]
  clear hW hb6 HS1
  have x0 := (H.out.bx 0 rfl 0 _ rfl).1
  have x1 := (H.out.bx 0 rfl 1 _ rfl).1
  have x2 := (H.out.bx 0 rfl 2 _ rfl).1
  go_upto_region 3 with (go_at_call 37; refine (HA.out _ _ _ (show FRw W2 ac (unS us) lc hc9 from H.out.at 1 rfl).crow).mono ?_; rintro e w3 ⟨rfl, hb⟩; replace H := Shut.mk (H.out.below hb); clear hb x0 x1 x2)
  by_cases hf : unIdx us g i < us.length
  case neg =>
    have hki : ki = -1 := by rw [HK.out, idx_no hf]
    have HE : Shut (RR = (⟨id, up, us⟩, false)) := ⟨by rw [HQ.out]; simp [hf]⟩
    subst hki
    clear hf
    have z0 := (H.out.bx 0 rfl 0 _ rfl).1
    have z1 := (H.out.bx 0 rfl 1 _ rfl).1
    have z2 := (H.out.bx 0 rfl 2 _ rfl).1
    obtain ⟨r0, r0z⟩ := H.out.bx 2 rfl 0 _ rfl
    obtain ⟨r1, r1z⟩ := H.out.bx 2 rfl 1 _ rfl
    obtain ⟨r2, r2z⟩ := H.out.bx 2 rfl 2 _ rfl
    go_wp2_with fail
    have HE3 := Shut.mk ((((H.out.put 2 rfl 0 (.int .i64 id) (by simp)).put 2 rfl 1 (.bool up) (by simp)).put 2 rfl 2 (.slice ac n cc) (by simp)))
    refine bodyPost_ret (v := .tuple #[.agg #[.int .i64 id, .bool up, .slice ac n cc], .bool false]) (by simp [results, Tryd.results15, go_sem, r0, r1, r2]) rfl ?_
    rw [HE.out]
    have hs := HE3.out.is _ (List.mem_of_getElem? (show _[1]? = some (rwS ac (unS us) lc hc9) from rfl))
    exact ⟨_, cc, by rw [HN.out], frw_wide (show FRw _ _ (unS us) lc hc9 from hs.1) hs.2.2.1 hs.2.2.2, by have := HN.out; show us.length ≤ cc; omega, HE3.out.bel⟩
  obtain ⟨k, hk⟩ : ∃ k, k = unIdx us g i := ⟨_, rfl⟩
  have hki : ki = (k : Int) := by rw [HK.out, idx_lt hf, hk]
  rw [← hk] at hf
  have HE : Shut (RR = (⟨id, up, us.take k ++ us.drop (k + 1)⟩, true)) := ⟨by rw [HQ.out, ← hk, if_pos hf]⟩
  subst hki
  have k0 : (0 : Int) ≤ (k : Int) := by omega
  have k1 : (k : Int) < (n : Int) := by have := HN.out; omega
  have k2 : ¬ ((k : Int) < 0) := by omega
  clear hk HQ
  obtain ⟨gc, rfl⟩ := frw_some (show FRw w3 ac (unS us) lc hc9 from H.out.at 1 rfl) (by omega)
  have x2 := (H.out.bx 0 rfl 2 _ rfl).1
  have hkn : k < n := by omega
  have hcn : n ≤ cc := hcc
  have HDL := Shut.mk (deleteUnit us gc n cc k lc hc9 w3 (show FRw w3 (some ⟨gc, 0, none⟩) (unS us) lc hc9 from H.out.at 1 rfl) HN.out hkn hcn)
  have hw1 : (k : Int) + 1 ≤ 9223372036854775807 := by omega
  have HT : Shut (∀ w4, FRw w4 (some ⟨gc, 0, none⟩) (unS (us.take k ++ us.drop (k + 1))) lc hc9 → Turned w3 w4 lc hc9 → SL w w4 [bxS b6 [.int .i64 id, .bool up, .slice (some ⟨gc, 0, none⟩) n cc], rwS (some ⟨gc, 0, none⟩) (unS (us.take k ++ us.drop (k + 1))) lc hc9, bxS (w.heap.size + 1) [.int .i64 0, .bool false, .slice none 0 0], bxS w.heap.size [.int .i64 id, .bool up, .slice a n cap]]) := ⟨fun w4 hF hT => H.out.turn 1 rfl hT hF (rwS.loc _ _ _ _)⟩
  clear hf
  go_upto_region 6 with (go_at_call 41; refine HDL.out.mono ?_; rintro e w4 ⟨rfl, hF4, hT4⟩; have H4 := Shut.mk (HT.out w4 hF4 hT4); obtain ⟨y2, y2z⟩ := H4.out.bx 0 rfl 2 _ rfl; clear hF4 hT4 HDL HT H x2)
  obtain ⟨nn, hnn⟩ : ∃ q, q = n - 1 := ⟨_, rfl⟩
  have H7 := Shut.mk (H4.out.put 0 rfl 2 (.slice (some ⟨gc, 0, none⟩) (n - 1) cc) (by simp))
  simp only [List.set_cons_zero, List.set_cons_succ] at H7
  rw [← hnn] at H7 ⊢
  have HNN : Shut (nn = (us.take k ++ us.drop (k + 1)).length) := ⟨by rw [hnn, List.length_append, List.length_take, List.length_drop, ← HN.out]; omega⟩
  clear H4 y2 y2z hnn
  refine wp_shade (fun W => SL w W [bxS b6 [.int .i64 id, .bool up, .slice (some ⟨gc, 0, none⟩) nn cc], rwS (some ⟨gc, 0, none⟩) (unS (us.take k ++ us.drop (k + 1))) lc hc9, bxS (w.heap.size + 1) [.int .i64 0, .bool false, .slice none 0 0], bxS w.heap.size [.int .i64 id, .bool up, .slice a n cap]]) H7.out ?_
  intro W8 hW
  have H := Shut.mk hW
  clear hW H7
  have z0 := (H.out.bx 0 rfl 0 _ rfl).1
  have z1 := (H.out.bx 0 rfl 1 _ rfl).1
  have z2 := (H.out.bx 0 rfl 2 _ rfl).1
  obtain ⟨r0, r0z⟩ := H.out.bx 2 rfl 0 _ rfl
  obtain ⟨r1, r1z⟩ := H.out.bx 2 rfl 1 _ rfl
  obtain ⟨r2, r2z⟩ := H.out.bx 2 rfl 2 _ rfl
  go_wp2_with fail
  have HE3 := Shut.mk ((((H.out.put 2 rfl 0 (.int .i64 id) (by simp)).put 2 rfl 1 (.bool up) (by simp)).put 2 rfl 2 (.slice (some ⟨gc, 0, none⟩) nn cc) (by simp)))
  refine bodyPost_ret (v := .tuple #[.agg #[.int .i64 id, .bool up, .slice (some ⟨gc, 0, none⟩) nn cc], .bool true]) (by simp [results, Tryd.results15, go_sem, r0, r1, r2]) rfl ?_
  rw [HE.out]
  have hs := HE3.out.is _ (List.mem_of_getElem? (show _[1]? = some (rwS (some ⟨gc, 0, none⟩) (unS (us.take k ++ us.drop (k + 1))) lc hc9) from rfl))
  exact ⟨_, cc, by show _ = Ending.returned (.tuple #[.agg #[.int .i64 id, .bool up, .slice _ (us.take k ++ us.drop (k + 1)).length cc], .bool true]); rw [← HNN.out], frw_wide (show FRw _ _ (unS (us.take k ++ us.drop (k + 1))) lc hc9 from hs.1) hs.2.2.1 hs.2.2.2, by have h1 := HNN.out; have h2 := HN.out; show (us.take k ++ us.drop (k + 1)).length ≤ cc; rw [List.length_append, List.length_take, List.length_drop]; omega, HE3.out.bel⟩
end Go.Proofs.YtbanfccnmbmcfaaDoor
/- BRowM: Rows of bytes that may be written: of a call's own, and made of a text. -/
namespace Go.Proofs.YtbanfccnmbmcfaaDoor
set_option maxRecDepth 100000
open Go.RowKit

/-- A row of bytes that may be written. -/
def BRow (w : World) (g : Nat) (l : List UInt8) : Prop :=
  g < w.heap.size ∧ ∀ j, j < l.length → w.cell? ⟨g, j, none⟩ = some (.int .u8 ((l.getD j 0).toNat : Int)) ∧ w.frozen? ⟨g, j, none⟩ = false
theorem BRow.set {w : World} {g : Nat} {l : List UInt8} (h : BRow w g l) (i : Nat) (x : UInt8) (hi : i < l.length) : BRow (w.setCell ⟨g, i, none⟩ (.int .u8 (x.toNat : Int))) g (l.set i x) := by
  refine ⟨by have := h.1; simpa [World.setCell] using this, fun j hj => ?_⟩
  rw [List.length_set] at hj
  refine ⟨?_, (World.frozen?_setCell _ _ _ _).trans (h.2 j hj).2⟩
  by_cases e : j = i
  · subst e
    rw [World.cell?_setCell_same _ _ _ (h.2 j hj).1]
    simp [List.getD, hi]
  · rw [World.cell?_setCell_other _ _ _ _ (by first | (simp; done) | (simp; omega)), (h.2 j hj).1]
    simp [List.getD, Ne.symm e]
theorem own_brow {w : World} {B g n cap : Nat} {l : List UInt8} (h : w.ownsRow B 5 1 (.slice (some ⟨g, 0, none⟩) n cap) n (bv l)) : BRow w g l := by
  have hc := h.cells (g := g) rfl
  have hlt := h.lt g rfl
  obtain ⟨_, ⟨h0, _⟩ | ⟨g', cap', cur, he, hB, hcur, _, _, _, _⟩⟩ := h
  · cases h0
  · have eg : g' = g := by simp at he; exact he.1.symm
    subst eg
    refine ⟨hlt.2, fun j hj => ⟨?_, ?_⟩⟩
    · have := hc j _ (show (bv l)[j]? = some _ by simp [bv, hj]; rfl)
      have e : (⟨g', 0, none⟩ : Addr).add j = ⟨g', j, none⟩ := by cases j <;> simp [Addr.add]
      rw [e] at this
      simpa [List.getD, hj] using this
    · unfold World.frozen?
      rw [hcur]; simp
theorem brow_string {w : World} {g cap : Nat} {l : List UInt8} (h : BRow w g l) :
    (convert 22 9 (.slice (some ⟨g, 0, none⟩) l.length cap)).run Tryd.prog w = .ok (.string ⟨l.toArray⟩) w :=
  run_convert_bytes_back w 22 9 5 ⟨g, 0, none⟩ cap l Tryd.underlying22 Tryd.underlying5 Tryd.underlying9 (fun j hj => by
    have e : (⟨g, 0, none⟩ : Addr).add j = ⟨g, j, none⟩ := by cases j <;> simp [Addr.add]
    rw [e, (h.2 j hj).1]
    simp [List.getD, hj])
/-- The bytes of a text, in a block of their own. -/
theorem bytes_made (w : World) (s : ByteArray) : ∃ (w' : World) (c : Nat), (convert 9 22 (.string s)).run Tryd.prog w = .ok (.slice (some ⟨w.heap.size, 0, none⟩) s.size c) w' ∧ BRow w' w.heap.size s.data.toList ∧ Below w.heap.size w w' := by
  refine ⟨_, _, run_bytes_of_string w 9 22 5 s Tryd.underlying9 Tryd.underlying22 Tryd.underlying5, ⟨?_, fun j hj => ⟨?_, ?_⟩⟩, ?_⟩
  · show w.heap.size < (w.heap.push _).size
    simp
  · rw [show w.heap.size = w.drew.heap.size from rfl, World.cell?_alloc_mark]
    have hj' : j < s.data.size := by simpa using hj
    unfold bytesRow
    rw [Array.getElem?_append_left (by simpa using hj')]
    simp only [Array.getElem?_map, List.getD, Array.getElem?_toList]
    rw [Array.getElem?_eq_getElem hj']
    rfl
  · rw [show w.heap.size = w.drew.heap.size from rfl, World.frozen?_alloc_mark]
    have hj' : j < s.data.size := by simpa using hj
    have h2 : j < (bytesRow s (grownCap w s.size 0 5)).size := by unfold bytesRow; rw [Array.size_append, Array.size_map]; omega
    rw [decide_eq_false (show ¬ (bytesRow s (grownCap w s.size 0 5)).size ≤ j by omega)]
    rfl
  · exact (Below.drew (Below.refl _ _)).alloc (Nat.le_refl _) _
end Go.Proofs.YtbanfccnmbmcfaaDoor
/- FieldM: Plain facts on the field of bytes: products of polynomials over bits, modulo the one of the number 285; nothing of the program is read here. -/
namespace Go.Proofs.YtbanfccnmbmcfaaDoor.W
abbrev B8 := BitVec 8

/-- Twice a number. -/
def xt (a : B8) : B8 := if a.msb then (a <<< 1) ^^^ 29#8 else a <<< 1
def gb (b : B8) (i : Nat) (x : B8) : B8 := if b.getLsbD i then x else 0#8
def gm (a b : B8) : B8 :=
  gb b 0 a ^^^ (gb b 1 (xt a) ^^^ (gb b 2 (xt (xt a)) ^^^ (gb b 3 (xt (xt (xt a))) ^^^ (gb b 4 (xt (xt (xt (xt a)))) ^^^ (gb b 5 (xt (xt (xt (xt (xt a))))) ^^^ (gb b 6 (xt (xt (xt (xt (xt (xt a)))))) ^^^ gb b 7 (xt (xt (xt (xt (xt (xt (xt a)))))))))))))
theorem xor_swap (a b c d : B8) : (a ^^^ b) ^^^ (c ^^^ d) = (a ^^^ c) ^^^ (b ^^^ d) := by
  rw [BitVec.xor_assoc, BitVec.xor_assoc, ← BitVec.xor_assoc b c d, BitVec.xor_comm b c, BitVec.xor_assoc c b d]
theorem xor_two (a b : B8) {A B C : B8} (h : A ^^^ B = C) : (a ^^^ A) ^^^ (b ^^^ B) = (a ^^^ b) ^^^ C := by rw [xor_swap, h]
theorem xt_add (a b : B8) : xt (a ^^^ b) = xt a ^^^ xt b := by
  unfold xt
  rw [BitVec.msb_xor, BitVec.shiftLeft_xor_distrib]
  cases a.msb <;> cases b.msb <;> simp
  · rw [BitVec.xor_assoc]
  · rw [BitVec.xor_assoc, BitVec.xor_assoc, BitVec.xor_comm (b <<< 1)]
  · rw [xor_swap, BitVec.xor_self, BitVec.xor_zero]
theorem gb_add (b : B8) (i : Nat) (x y : B8) : gb b i (x ^^^ y) = gb b i x ^^^ gb b i y := by
  unfold gb; cases b.getLsbD i <;> simp
theorem gb_bits (b c : B8) (i : Nat) (x : B8) : gb (b ^^^ c) i x = gb b i x ^^^ gb c i x := by
  unfold gb
  rw [BitVec.getLsbD_xor]
  cases b.getLsbD i <;> cases c.getLsbD i <;> simp
theorem gm_left (a b c : B8) : gm (a ^^^ b) c = gm a c ^^^ gm b c := by
  unfold gm
  simp only [xt_add, gb_add]
  exact (xor_two _ _ (xor_two _ _ (xor_two _ _ (xor_two _ _ (xor_two _ _ (xor_two _ _ (xor_two _ _ rfl))))))).symm
theorem gm_right (a b c : B8) : gm a (b ^^^ c) = gm a b ^^^ gm a c := by
  unfold gm
  simp only [gb_bits]
  exact (xor_two _ _ (xor_two _ _ (xor_two _ _ (xor_two _ _ (xor_two _ _ (xor_two _ _ (xor_two _ _ rfl))))))).symm
theorem xt_zero : xt 0#8 = 0#8 := by decide
theorem gb_zero (b : B8) (i : Nat) : gb b i 0#8 = 0#8 := by unfold gb; simp
theorem gm_zero (a : B8) : gm a 0#8 = 0#8 := by unfold gm gb; simp
theorem zero_gm (a : B8) : gm 0#8 a = 0#8 := by unfold gm; simp only [xt_zero, gb_zero]; simp
/-- One round of the product: the lowest bit, and the rest of them with twice the number. -/
theorem gm_step (a b : B8) : gm a b = gb b 0 a ^^^ gm (xt a) (b >>> 1) := by
  have e : ∀ (i : Nat) (x : B8), gb (b >>> 1) i x = gb b (i + 1) x := fun i x => by unfold gb; rw [BitVec.getLsbD_ushiftRight, Nat.add_comm]
  have h8 : ∀ x : B8, gb b 8 x = 0#8 := fun x => by unfold gb; rw [BitVec.getLsbD_of_ge b 8 (by decide)]; rfl
  unfold gm
  simp only [e]
  rw [show 7 + 1 = 8 from rfl, h8]
  simp
/-- The bits of a number. -/
theorem bits_of : ∀ x : B8, x = gb x 0 1#8 ^^^ (gb x 1 2#8 ^^^ (gb x 2 4#8 ^^^ (gb x 3 8#8 ^^^ (gb x 4 16#8 ^^^ (gb x 5 32#8 ^^^ (gb x 6 64#8 ^^^ gb x 7 128#8)))))) := by decide +kernel
def adds (f : B8 → B8) : Prop := ∀ x y, f (x ^^^ y) = f x ^^^ f y
theorem adds.zero {f : B8 → B8} (h : adds f) : f 0#8 = 0#8 := by
  have := h 0#8 0#8
  rw [BitVec.xor_self, BitVec.xor_self] at this
  exact this
theorem adds.bit {f : B8 → B8} (h : adds f) (x : B8) (i : Nat) (y : B8) : f (gb x i y) = gb x i (f y) := by
  unfold gb; cases x.getLsbD i
  · simp [h.zero]
  · simp
/-- What goes through sums is told by its answers at the eight bits. -/
theorem adds.ext {f g : B8 → B8} (hf : adds f) (hg : adds g) (h : ∀ e ∈ [1#8, 2#8, 4#8, 8#8, 16#8, 32#8, 64#8, 128#8], f e = g e) (x : B8) : f x = g x := by
  have key : ∀ {f : B8 → B8}, adds f → f x = gb x 0 (f 1#8) ^^^ (gb x 1 (f 2#8) ^^^ (gb x 2 (f 4#8) ^^^ (gb x 3 (f 8#8) ^^^ (gb x 4 (f 16#8) ^^^ (gb x 5 (f 32#8) ^^^ (gb x 6 (f 64#8) ^^^ gb x 7 (f 128#8))))))) := fun {f} hf => by
    conv => lhs; rw [bits_of x]
    rw [hf, hf, hf, hf, hf, hf, hf]
    simp only [hf.bit]
  rw [key hf, key hg]
  rw [h 1#8 (by simp), h 2#8 (by simp), h 4#8 (by simp), h 8#8 (by simp), h 16#8 (by simp), h 32#8 (by simp), h 64#8 (by simp), h 128#8 (by simp)]
def eightB : List B8 := [1#8, 2#8, 4#8, 8#8, 16#8, 32#8, 64#8, 128#8]
theorem gm_comm_bits : ∀ x ∈ eightB, ∀ y ∈ eightB, gm x y = gm y x := by decide +kernel
theorem gm_comm (a b : B8) : gm a b = gm b a := by
  refine adds.ext (f := fun x => gm x b) (g := fun x => gm b x) (fun x y => gm_left x y b) (fun x y => gm_right b x y) (fun e he => ?_) a
  exact adds.ext (f := fun y => gm e y) (g := fun y => gm y e) (fun x y => gm_right e x y) (fun x y => gm_left x y e) (fun d hd => gm_comm_bits e he d hd) b
theorem gm_assoc_bits : ∀ x ∈ eightB, ∀ y ∈ eightB, ∀ z ∈ eightB, gm (gm x y) z = gm x (gm y z) := by decide +kernel
theorem gm_assoc (a b c : B8) : gm (gm a b) c = gm a (gm b c) := by
  refine adds.ext (f := fun x => gm (gm x b) c) (g := fun x => gm x (gm b c)) (fun x y => by simp only [gm_left]) (fun x y => gm_left x y _) (fun e he => ?_) a
  refine adds.ext (f := fun y => gm (gm e y) c) (g := fun y => gm e (gm y c)) (fun x y => by simp only [gm_right, gm_left]) (fun x y => by simp only [gm_left, gm_right]) (fun d hd => ?_) b
  exact adds.ext (f := fun z => gm (gm e d) z) (g := fun z => gm e (gm d z)) (fun x y => gm_right _ x y) (fun x y => by simp only [gm_right]) (fun g hg => gm_assoc_bits e he d hd g hg) c
theorem gm_one (a : B8) : gm a 1#8 = a := by
  unfold gm gb; simp
theorem one_gm (a : B8) : gm 1#8 a = a := by rw [gm_comm, gm_one]
/-- Powers. -/
def gp (a : B8) : Nat → B8
  | 0 => 1#8
  | n + 1 => gm (gp a n) a
theorem gp_0 (a : B8) : gp a 0 = 1#8 := rfl
theorem gp_succ (a : B8) (n : Nat) : gp a (n + 1) = gm (gp a n) a := rfl
theorem gp_add (a : B8) (n : Nat) : ∀ m, gm (gp a n) (gp a m) = gp a (n + m)
  | 0 => gm_one _
  | m + 1 => by rw [gp, ← gm_assoc, gp_add a n m]; rfl
theorem gp_two (a : B8) (n : Nat) : gp a (n + n) = gm (gp a n) (gp a n) := (gp_add a n n).symm
theorem gp_one (a : B8) : gp a 1 = a := one_gm a
/-- The product of the powers by 1, 2, 4 .. 128. -/
def round (a : B8) : B8 :=
  let b := gm a a; let c := gm b b; let d := gm c c; let e := gm d d; let f := gm e e; let g := gm f f; let h := gm g g
  gm a (gm b (gm c (gm d (gm e (gm f (gm g h))))))
theorem gp_round (a : B8) : gp a 255 = round a := by
  have h2 : gp a 2 = gm a a := by rw [show 2 = 1 + 1 from rfl, gp_two, gp_one]
  have h4 : gp a 4 = gm (gp a 2) (gp a 2) := gp_two a 2
  have h8 : gp a 8 = gm (gp a 4) (gp a 4) := gp_two a 4
  have h16 : gp a 16 = gm (gp a 8) (gp a 8) := gp_two a 8
  have h32 : gp a 32 = gm (gp a 16) (gp a 16) := gp_two a 16
  have h64 : gp a 64 = gm (gp a 32) (gp a 32) := gp_two a 32
  have h128 : gp a 128 = gm (gp a 64) (gp a 64) := gp_two a 64
  have s7 : gm (gp a 64) (gp a 128) = gp a 192 := gp_add a 64 128
  have s6 : gm (gp a 32) (gp a 192) = gp a 224 := gp_add a 32 192
  have s5 : gm (gp a 16) (gp a 224) = gp a 240 := gp_add a 16 224
  have s4 : gm (gp a 8) (gp a 240) = gp a 248 := gp_add a 8 240
  have s3 : gm (gp a 4) (gp a 248) = gp a 252 := gp_add a 4 248
  have s2 : gm (gp a 2) (gp a 252) = gp a 254 := gp_add a 2 252
  have s1 : gm (gp a 1) (gp a 254) = gp a 255 := gp_add a 1 254
  rw [← s1, ← s2, ← s3, ← s4, ← s5, ← s6, ← s7, h128, h64, h32, h16, h8, h4, h2, gp_one]
  rfl
theorem round_all : ∀ a : B8, a ≠ 0#8 → round a = 1#8 := by decide +kernel
theorem gp_255 (a : B8) (h : a ≠ 0#8) : gp a 255 = 1#8 := by rw [gp_round, round_all a h]
/-- The number with which one is 1. -/
def gi (a : B8) : B8 := if a = 0#8 then 0#8 else gp a 254
theorem gi_zero : gi 0#8 = 0#8 := if_pos rfl
theorem gm_gi (a : B8) (h : a ≠ 0#8) : gm a (gi a) = 1#8 := by
  unfold gi
  rw [if_neg h, gm_comm, ← gp_255 a h]
  rfl
theorem gi_only {a b : B8} (h : gm a b = 1#8) : b = gi a := by
  have h0 : a ≠ 0#8 := by
    intro e; subst e
    rw [zero_gm] at h
    exact absurd h (by decide)
  rw [← gm_one b, ← gm_gi a h0, ← gm_assoc, gm_comm b a, h, one_gm]
end Go.Proofs.YtbanfccnmbmcfaaDoor.W
/- FieldN: Facts that lead from numbers of the program to the field of bytes, and texts that are summed up or taken so many times. -/
namespace Go.Proofs.YtbanfccnmbmcfaaDoor
set_option maxRecDepth 100000
open Go.RowKit
open W (B8)

theorem i64_xor (m n : Nat) (hm : m < 512) (hn : n < 512) : bits .xor .i64 (m : Int) (n : Int) = ((m ^^^ n : Nat) : Int) := by
  have h1 : ∀ k : Nat, k < 512 → (BitVec.ofInt 64 (k : Int)).toNat = k := fun k hk => by rw [BitVec.toNat_ofInt]; omega
  have h2 : m ^^^ n < 2 ^ 9 := Nat.xor_lt_two_pow (by omega) (by omega)
  show IntKind.i64.wrap ((BitVec.ofInt 64 (m : Int) ^^^ BitVec.ofInt 64 (n : Int)).toNat : Nat) = _
  rw [BitVec.toNat_xor, h1 m hm, h1 n hn, IntKind.wrap_i64]
  omega
theorem b8_lt (A : B8) : A.toNat < 256 := A.isLt
theorem i64_xor8 (A B : B8) : bits .xor .i64 (A.toNat : Int) (B.toNat : Int) = ((A ^^^ B).toNat : Int) := by
  rw [i64_xor _ _ (by have := b8_lt A; omega) (by have := b8_lt B; omega), BitVec.toNat_xor]
/-- A number, taken modulo 256. -/
def g8 (x : Int) : B8 := BitVec.ofInt 8 x
theorem g8_nat (x : Int) : ((g8 x).toNat : Int) = x % 256 := by
  unfold g8
  rw [BitVec.toNat_ofInt]
  omega
theorem g8_back (A : B8) : g8 (A.toNat : Int) = A := by
  apply BitVec.eq_of_toNat_eq
  have := g8_nat (A.toNat : Int)
  have := b8_lt A
  omega
theorem g8_mod (x : Int) : g8 (x % 256) = g8 x := by
  apply BitVec.eq_of_toNat_eq
  have := g8_nat (x % 256)
  have := g8_nat x
  omega
namespace W
theorem xt_big : ∀ A : B8, 256 ≤ 2 * A.toNat → (2 * A.toNat) ^^^ 285 = (xt A).toNat := by decide +kernel
theorem xt_small : ∀ A : B8, 2 * A.toNat < 256 → 2 * A.toNat = (xt A).toNat := by decide +kernel
theorem half8 (B : B8) : B.toNat / 2 = (B >>> 1).toNat := by
  rw [BitVec.toNat_ushiftRight, Nat.shiftRight_eq_div_pow]
theorem odd8 (B : B8) : B.getLsbD 0 = decide (B.toNat % 2 = 1) := by rw [BitVec.getLsbD, Nat.testBit_zero]
theorem b8_zero {B : B8} (h : B.toNat = 0) : B = 0#8 := BitVec.eq_of_toNat_eq h

/-- The sum of two texts. -/
def addL : List UInt8 → List UInt8 → List UInt8
  | [], b => b
  | a, [] => a
  | x :: a, y :: b => (x ^^^ y) :: addL a b
theorem addL_nil (a : List UInt8) : addL a [] = a := by cases a <;> rfl
theorem addL_comm : ∀ (a b : List UInt8), addL a b = addL b a
  | [], b => by rw [addL_nil]; cases b <;> rfl
  | x :: a, [] => rfl
  | x :: a, y :: b => by rw [addL, addL, UInt8.xor_comm, addL_comm a b]
theorem addL_len : ∀ (a b : List UInt8), (addL a b).length = max a.length b.length
  | [], b => by simp [addL]
  | x :: a, [] => by simp [addL]
  | x :: a, y :: b => by
    rw [addL, List.length_cons, addL_len a b]
    simp only [List.length_cons]
    omega
theorem addL_twice : ∀ (a b : List UInt8), ∃ r, addL (addL a b) b = a ++ r
  | [], b => ⟨addL b b, by simp [addL]⟩
  | x :: a, [] => ⟨[], by simp [addL]⟩
  | x :: a, y :: b => by
    obtain ⟨r, hr⟩ := addL_twice a b
    refine ⟨r, ?_⟩
    rw [addL, addL, hr, UInt8.xor_assoc, UInt8.xor_self, UInt8.xor_zero]
    rfl
/-- A text so many times. -/
def mulB (A : B8) (c : UInt8) : UInt8 := ⟨gm A c.toBitVec⟩
def mulL (A : B8) (l : List UInt8) : List UInt8 := l.map (mulB A)
theorem mulB_add (A : B8) (x y : UInt8) : mulB A (x ^^^ y) = mulB A x ^^^ mulB A y := by
  unfold mulB
  apply UInt8.eq_of_toBitVec_eq
  simp only [UInt8.toBitVec_xor, gm_right]
theorem mulL_add (A : B8) : ∀ (a b : List UInt8), mulL A (addL a b) = addL (mulL A a) (mulL A b)
  | [], b => rfl
  | x :: a, [] => rfl
  | x :: a, y :: b => by
    have := mulL_add A a b
    unfold mulL at *
    rw [addL, List.map_cons, List.map_cons, List.map_cons, addL, mulB_add, this]
theorem mulL_one (a : List UInt8) : mulL 1#8 a = a := by
  unfold mulL
  rw [show mulB 1#8 = id from funext fun c => by unfold mulB; rw [one_gm]; rfl]
  simp
theorem mulL_len (A : B8) (a : List UInt8) : (mulL A a).length = a.length := by simp [mulL]
/-- The first bytes done, the others as they were. -/
def addTo (a b : List UInt8) (k : Nat) : List UInt8 := addL (a.take k) (b.take k) ++ a.drop k
theorem addTo_all {a b : List UInt8} (h : b.length ≤ a.length) : addTo a b b.length = addL a b := by
  have key : ∀ (a b : List UInt8), b.length ≤ a.length → addL (a.take b.length) b ++ a.drop b.length = addL a b := by
    intro a b
    induction b generalizing a with
    | nil => intro _; simp [addL_nil]
    | cons y b ih =>
      intro h
      cases a with
      | nil => simp at h
      | cons x a =>
        simp only [List.length_cons, List.take_succ_cons, List.drop_succ_cons, addL, List.cons_append]
        rw [ih a (by simpa using h)]
  unfold addTo
  rw [List.take_of_length_le (Nat.le_refl _)]
  exact key a b h
theorem addTo_len {a b : List UInt8} {k : Nat} (h : b.length ≤ a.length) : (addTo a b k).length = a.length := by
  unfold addTo
  rw [List.length_append, addL_len, List.length_drop, List.length_take, List.length_take]
  omega
theorem addL_snoc : ∀ (a b : List UInt8) (x y : UInt8), a.length = b.length → addL (a ++ [x]) (b ++ [y]) = addL a b ++ [x ^^^ y]
  | [], [], x, y, _ => rfl
  | [], _ :: _, _, _, h => by simp at h
  | _ :: _, [], _, _, h => by simp at h
  | c :: a, d :: b, x, y, h => by
    have := addL_snoc a b x y (by simpa using h)
    simp only [List.cons_append, addL, this]
theorem at_mid (P : List UInt8) (x y : UInt8) (R : List UInt8) (k : Nat) (h : P.length = k) : (P ++ x :: R).getD k 0 = x ∧ (P ++ x :: R).set k y = P ++ y :: R := by
  subst h
  refine ⟨by simp [List.getD], ?_⟩
  rw [List.set_append_right _ _ (Nat.le_refl _)]
  simp
theorem getD_at {l : List UInt8} {k : Nat} (h : k < l.length) : l[k] = l.getD k 0 := by simp [List.getD, h]
theorem addTo_step {a b : List UInt8} {k : Nat} (h : b.length ≤ a.length) (hk : k < b.length) :
    (addTo a b k).getD k 0 = a.getD k 0 ∧ (addTo a b k).set k (a.getD k 0 ^^^ b.getD k 0) = addTo a b (k + 1) := by
  have ha : k < a.length := by omega
  have hl : (addL (a.take k) (b.take k)).length = k := by rw [addL_len, List.length_take, List.length_take]; omega
  have e1 : a.drop k = a.getD k 0 :: a.drop (k + 1) := by rw [List.drop_eq_getElem_cons ha, getD_at ha]
  have e2 : a.take (k + 1) = a.take k ++ [a.getD k 0] := by rw [List.take_succ_eq_append_getElem ha, getD_at ha]
  have e3 : b.take (k + 1) = b.take k ++ [b.getD k 0] := by rw [List.take_succ_eq_append_getElem hk, getD_at hk]
  have m := at_mid (addL (a.take k) (b.take k)) (a.getD k 0) (a.getD k 0 ^^^ b.getD k 0) (a.drop (k + 1)) k hl
  unfold addTo
  rw [e1, e2, e3, addL_snoc _ _ _ _ (by rw [List.length_take, List.length_take]; omega), List.append_assoc]
  exact ⟨m.1, m.2⟩
theorem addTo_zero (a b : List UInt8) : addTo a b 0 = a := by simp [addTo, addL]
def mulTo (A : B8) (l : List UInt8) (k : Nat) : List UInt8 := mulL A (l.take k) ++ l.drop k
theorem mulTo_zero (A : B8) (l : List UInt8) : mulTo A l 0 = l := by simp [mulTo, mulL]
theorem mulTo_all (A : B8) (l : List UInt8) {k : Nat} (h : l.length ≤ k) : mulTo A l k = mulL A l := by
  unfold mulTo
  rw [List.take_of_length_le h, List.drop_of_length_le h, List.append_nil]
theorem mulTo_len (A : B8) (l : List UInt8) (k : Nat) : (mulTo A l k).length = l.length := by
  unfold mulTo
  rw [List.length_append, mulL_len, List.length_take, List.length_drop]
  omega
theorem mulTo_step (A : B8) {l : List UInt8} {k : Nat} (h : k < l.length) : (mulTo A l k).getD k 0 = l.getD k 0 ∧ (mulTo A l k).set k (mulB A (l.getD k 0)) = mulTo A l (k + 1) := by
  have e1 : l.drop k = l.getD k 0 :: l.drop (k + 1) := by rw [List.drop_eq_getElem_cons h, getD_at h]
  have e2 : l.take (k + 1) = l.take k ++ [l.getD k 0] := by rw [List.take_succ_eq_append_getElem h, getD_at h]
  have m := at_mid (mulL A (l.take k)) (l.getD k 0) (mulB A (l.getD k 0)) (l.drop (k + 1)) k (by rw [mulL_len, List.length_take]; omega)
  unfold mulTo
  rw [e1, e2]
  refine ⟨m.1, ?_⟩
  rw [m.2]
  simp [mulL]
end W
end Go.Proofs.YtbanfccnmbmcfaaDoor
/- SpL: The model's Spoil (written by gen/mkspoil.py). -/
namespace Go.Proofs.YtbanfccnmbmcfaaDoor
set_option maxRecDepth 100000
open Go.RowKit BigFrame
attribute [local go_sem ↓] Go.wp_at_zero Go.wp_at_succ

theorem bits_one (x : UInt8) : bits .xor .u8 (x.toNat : Int) 1 = ((x ^^^ 1).toNat : Int) := by
  have h : ∀ y : Fin 256, bits .xor .u8 ((UInt8.ofNat y.val).toNat : Int) 1 = ((UInt8.ofNat y.val ^^^ 1).toNat : Int) := by decide +kernel
  have := h ⟨x.toNat, x.toNat_lt⟩
  simpa using this
theorem toList_none : (⟨#[]⟩ : ByteArray).toList = [] := by
  unfold ByteArray.toList ByteArray.toList.loop
  rfl
theorem set_same {α : Type} {Z : List α} {i : Nat} {v : α} (h : Z[i]? = some v) : Z.set i v = Z := by
  obtain ⟨hi, e⟩ := List.getElem?_eq_some_iff.1 h
  subst e
  exact List.set_getElem_self hi
theorem uns_text (us : List UnM) (k : Nat) (h : k < us.length) (T : ByteArray) : (unS us).set (k * 4 + 2) (.string T) = unS (us.set k ⟨us[k].group, us[k].index, T, us[k].sum⟩) := by
  have q := flat_setL unC_len us k h ⟨us[k].group, us[k].index, T, us[k].sum⟩
  have e0 : (unS us)[k * 4]? = some (.int .i64 us[k].group) := flat_get unC_len us k h 0 (by omega)
  have e1 : (unS us)[k * 4 + 1]? = some (.int .i64 us[k].index) := flat_get unC_len us k h 1 (by omega)
  have e3 : (unS us)[k * 4 + 3]? = some (.int .i64 us[k].sum) := flat_get unC_len us k h 3 (by omega)
  have q' : unS (us.set k ⟨us[k].group, us[k].index, T, us[k].sum⟩) = setL (unS us) (k * 4) (unC ⟨us[k].group, us[k].index, T, us[k].sum⟩) := q.symm
  rw [q']
  clear q q'
  generalize unS us = Z at *
  simp only [unC, setL]
  rw [set_same e0, set_same e1]
  exact (set_same (by rw [List.getElem?_set_ne (by omega)]; exact e3)).symm
abbrev byS (b : Nat) (l : List UInt8) : Str := ⟨fun W => BRow W b l, b, b + 1⟩
theorem BRow.turned {w w' : World} {g lo hi : Nat} {L : List UInt8} (h : BRow w g L) (t : Turned w w' lo hi) (hd : g < lo ∨ hi ≤ g) : BRow w' g L :=
  ⟨Nat.lt_of_lt_of_le h.1 t.size, fun i hi => ⟨(World.cell?_of_block (a := ⟨g, i, none⟩) (t.block g h.1 hd)).trans (h.2 i hi).1, (World.frozen?_of_block (a := ⟨g, i, none⟩) (t.block g h.1 hd)).trans (h.2 i hi).2⟩⟩
theorem byS.loc (b : Nat) (l : List UInt8) : (byS b l).Loc := fun _ _ _ _ h t hd => BRow.turned h t (by rcases hd with h | h <;> (dsimp only [byS] at h; omega))
set_option maxRecDepth 100000 in
set_option maxHeartbeats 8000000 in
theorem specSpoil (H : HM) (a : Option Addr) (cap : Nat) (g i at9 : Int) (w : World) (hr : UnRow w a H.us) (hl : H.us.length ≤ 1048576) (hz : unSum H.us ≤ 1048576) (ha : at9 ≤ 9223372036854775807) :
    Calls Tryd.prog 28 #[hov H a cap, .int .i64 g, .int .i64 i, .int .i64 at9] w fun e w' => HbPost (spoilX H g i at9) w e w' := by
  have HR := Shut.mk hr
  have HCP := Shut.mk (fun (W : World) (hb : Below w.heap.size w W) => specCopy14 H a cap W (hr.stays hb) hl)
  have HA := Shut.mk (fun (W : World) (hb : Below w.heap.size w W) => specAt14 H a cap g i W (hr.stays hb) hl)
  have HZ : Shut (∀ u ∈ H.us, u.text.size ≤ 1048576) := ⟨fun u hu => by have := unSum_mem hu; omega⟩
  unfold HoPost at HCP
  clear hr hz
  obtain ⟨id, up, us⟩ := H
  obtain ⟨RR, hRR⟩ : ∃ q, q = spoilX ⟨id, up, us⟩ g i at9 := ⟨_, rfl⟩
  rw [← hRR]
  have HQ := Shut.mk hRR
  unfold spoilX at HQ
  show Calls Tryd.prog 28 #[.agg #[.int .i64 id, .bool up, .slice a us.length cap], .int .i64 g, .int .i64 i, .int .i64 at9] w fun e w' => HbPost RR w e w'
  dsimp only [hov] at *
  obtain ⟨n, hn⟩ : ∃ n, n = us.length := ⟨_, rfl⟩
  have HN := Shut.mk hn
  rw [← hn] at HCP HA hl ⊢
  obtain ⟨ki, hki⟩ : ∃ q, q = atN us g i := ⟨_, rfl⟩
  rw [← hki] at HA
  have HK := Shut.mk hki
  clear hki hRR hn
  have HS0 := Shut.mk (((SL.start w).new #[.int .i64 id, .bool up, .slice a n cap] 26).new #[.int .i64 0, .bool false, .slice none 0 0] 26)
  simp only [World.size_alloc] at HS0
  go_enter Tryd.func28, Tryd.ntmps28
  go_upto_region 1 with fail
  refine wp_shade (fun W => SL w W [bxS (w.heap.size + 1) [.int .i64 0, .bool false, .slice none 0 0], bxS w.heap.size [.int .i64 id, .bool up, .slice a n cap]]) HS0.out ?_
  intro W0 hW
  have H := Shut.mk hW
  clear HS0 hW
  have x0 := (H.out.bx 1 rfl 0 _ rfl).1
  have x1 := (H.out.bx 1 rfl 1 _ rfl).1
  have x2 := (H.out.bx 1 rfl 2 _ rfl).1
  go_upto_region 2 with (go_at_call 48; refine (HCP.out _ H.out.bel).mono ?_; rintro e w1 ⟨ac, cc, rfl, hF, hcc, hb⟩; have HS1 := Shut.mk (H.out.add (s := rwS ac (unS us) W0.heap.size w1.heap.size) hb hF (rwS.loc _ _ _ _) (Nat.le_refl _) (Nat.le_refl _)); clear hF hb H x0 x1 x2)
  generalize W0.heap.size = lc at HS1
  obtain ⟨hc9, hhc⟩ : ∃ q, q = w1.heap.size := ⟨_, rfl⟩
  rw [← hhc] at HS1
  clear hhc
  obtain ⟨b6, hb6⟩ : ∃ q, q = w1.heap.size := ⟨_, rfl⟩
  refine wp_shade (fun W => SL w W [bxS b6 [.int .i64 id, .bool up, .slice ac n cc], rwS ac (unS us) lc hc9, bxS (w.heap.size + 1) [.int .i64 0, .bool false, .slice none 0 0], bxS w.heap.size [.int .i64 id, .bool up, .slice a n cap]]) (by rw [hb6]; exact HS1.out.new _ _) ?_
  intro W2 hW
  have H := Shut.mk hW
  rw [← hb6]
  clear hW hb6 HS1
  have x0 := (H.out.bx 3 rfl 0 _ rfl).1
  have x1 := (H.out.bx 3 rfl 1 _ rfl).1
  have x2 := (H.out.bx 3 rfl 2 _ rfl).1
  go_upto_region 3 with (go_at_call 44; refine (HA.out _ H.out.bel).mono ?_; rintro e w3 ⟨rfl, hb⟩; have HW := Shut.mk (H.out.below hb); clear hb x0 x1 x2 H)
  have lw := (show WCells w3 w.heap.size _ from HW.out.at 3 rfl).1
  have g2 : ∀ X : Grow w3, X.val.cell? ⟨w.heap.size, 2, none⟩ = some (.slice a n cap) := fun X => X.cell (HW.out.bx 3 rfl 2 _ rfl).1 lw
  by_cases hf : unIdx us g i < us.length
  case neg =>
    have hki : ki = -1 := by rw [HK.out, idx_no hf]
    have HE : Shut (RR = (⟨id, up, us⟩, false)) := ⟨by rw [HQ.out]; simp [hf]⟩
    subst hki
    clear hf
    refine wp_region_grow (by kernel_rfl) (by kernel_rfl) ?_
    repeat (go_big_quiet_step (fail))
    refine wpQuiet_nil ?_
    rintro _ ⟨X, rfl⟩
    have H := Shut.mk (HW.out.below X.bel)
    clear g2
    have z0 := (H.out.bx 0 rfl 0 _ rfl).1
    have z1 := (H.out.bx 0 rfl 1 _ rfl).1
    have z2 := (H.out.bx 0 rfl 2 _ rfl).1
    obtain ⟨r0, r0z⟩ := H.out.bx 2 rfl 0 _ rfl
    obtain ⟨r1, r1z⟩ := H.out.bx 2 rfl 1 _ rfl
    obtain ⟨r2, r2z⟩ := H.out.bx 2 rfl 2 _ rfl
    go_wp2_with fail
    have HE3 := Shut.mk ((((H.out.put 2 rfl 0 (.int .i64 id) (by simp)).put 2 rfl 1 (.bool up) (by simp)).put 2 rfl 2 (.slice ac n cc) (by simp)))
    refine bodyPost_ret (v := .tuple #[.agg #[.int .i64 id, .bool up, .slice ac n cc], .bool false]) (by simp [results, Tryd.results28, go_sem, r0, r1, r2]) rfl ?_
    rw [HE.out]
    have hs := HE3.out.is _ (List.mem_of_getElem? (show _[1]? = some (rwS ac (unS us) lc hc9) from rfl))
    exact ⟨_, cc, by rw [HN.out], frw_wide (show FRw _ _ (unS us) lc hc9 from hs.1) hs.2.2.1 hs.2.2.2, by have := HN.out; show us.length ≤ cc; omega, HE3.out.bel⟩
  obtain ⟨k, hk⟩ : ∃ k, k = unIdx us g i := ⟨_, rfl⟩
  have hki : ki = (k : Int) := by rw [HK.out, idx_lt hf, hk]
  rw [← hk] at hf
  obtain ⟨b, off, u, rfl, hu, lb, hc⟩ := un_at HR.out HW.out.bel hf
  have hut : u.text.size ≤ 1048576 := by rw [hu]; exact HZ.out _ (List.getElem_mem hf)
  have HQ2 : Shut (RR = if decide (0 ≤ at9) && !(u.text.toList == []) && unSound u then (⟨id, up, us.set k ⟨u.group, u.index, turnAt u.text (at9.toNat % u.text.size), u.sum⟩⟩, true) else (⟨id, up, us⟩, false)) := ⟨by
    rw [HQ.out, ← hk, getD_un us k hf, ← hu]; simp [hf]⟩
  have HSU := Shut.mk (fun X : Grow w3 => calls_same (w := w3) (fun W' (_ : Below w3.heap.size w3 W') => specSumText u.text W' hut) X)
  unfold unSound at HQ2
  generalize sumN u.text = sn at HQ2 HSU
  subst hki
  have k0 : (0 : Int) ≤ (k : Int) := by omega
  have k1 : (k : Int) < (n : Int) := by have := HN.out; omega
  have k2 : decide ((k : Int) < 0) = false := by simp
  have p2 : ∀ X : Grow w3, X.val.cell? ⟨b, off + k * 4 + 2, none⟩ = some (.string u.text) := fun X => (hc X.val X.bel).2.2.1
  have p3 : ∀ X : Grow w3, X.val.cell? ⟨b, off + k * 4 + 3, none⟩ = some (.int .i64 u.sum) := fun X => (hc X.val X.bel).2.2.2
  have HC := Shut.mk hc
  have HU := Shut.mk hu
  clear hc hk hu
  by_cases hat : 0 ≤ at9
  case neg =>
    have ha2 : decide (at9 < 0) = true := by simp; omega
    have HE : Shut (RR = (⟨id, up, us⟩, false)) := ⟨by rw [HQ2.out, decide_eq_false hat]; rfl⟩
    refine wp_region_grow (by kernel_rfl) (by kernel_rfl) ?_
    repeat (go_big_quiet_step (fail))
    refine wpQuiet_nil ?_
    rintro _ ⟨X, rfl⟩
    have H := Shut.mk (HW.out.below X.bel)
    clear p2 p3 g2
    have z0 := (H.out.bx 0 rfl 0 _ rfl).1
    have z1 := (H.out.bx 0 rfl 1 _ rfl).1
    have z2 := (H.out.bx 0 rfl 2 _ rfl).1
    obtain ⟨r0, r0z⟩ := H.out.bx 2 rfl 0 _ rfl
    obtain ⟨r1, r1z⟩ := H.out.bx 2 rfl 1 _ rfl
    obtain ⟨r2, r2z⟩ := H.out.bx 2 rfl 2 _ rfl
    go_wp2_with fail
    have HE3 := Shut.mk ((((H.out.put 2 rfl 0 (.int .i64 id) (by simp)).put 2 rfl 1 (.bool up) (by simp)).put 2 rfl 2 (.slice ac n cc) (by simp)))
    refine bodyPost_ret (v := .tuple #[.agg #[.int .i64 id, .bool up, .slice ac n cc], .bool false]) (by simp [results, Tryd.results28, go_sem, r0, r1, r2]) rfl ?_
    rw [HE.out]
    have hs := HE3.out.is _ (List.mem_of_getElem? (show _[1]? = some (rwS ac (unS us) lc hc9) from rfl))
    exact ⟨_, cc, by rw [HN.out], frw_wide (show FRw _ _ (unS us) lc hc9 from hs.1) hs.2.2.1 hs.2.2.2, by have := HN.out; show us.length ≤ cc; omega, HE3.out.bel⟩
  have ha2 : decide (at9 < 0) = false := by simp; omega
  rw [decide_eq_true hat] at HQ2
  cases hte : u.text.toList == [] with
  | true =>
    have HE : Shut (RR = (⟨id, up, us⟩, false)) := ⟨by rw [HQ2.out, hte]; rfl⟩
    refine wp_region_grow (by kernel_rfl) (by kernel_rfl) ?_
    repeat (go_big_quiet_step (fail))
    refine wpQuiet_nil ?_
    rintro _ ⟨X, rfl⟩
    have H := Shut.mk (HW.out.below X.bel)
    clear p2 p3 g2
    have z0 := (H.out.bx 0 rfl 0 _ rfl).1
    have z1 := (H.out.bx 0 rfl 1 _ rfl).1
    have z2 := (H.out.bx 0 rfl 2 _ rfl).1
    obtain ⟨r0, r0z⟩ := H.out.bx 2 rfl 0 _ rfl
    obtain ⟨r1, r1z⟩ := H.out.bx 2 rfl 1 _ rfl
    obtain ⟨r2, r2z⟩ := H.out.bx 2 rfl 2 _ rfl
    go_wp2_with fail
    have HE3 := Shut.mk ((((H.out.put 2 rfl 0 (.int .i64 id) (by simp)).put 2 rfl 1 (.bool up) (by simp)).put 2 rfl 2 (.slice ac n cc) (by simp)))
    refine bodyPost_ret (v := .tuple #[.agg #[.int .i64 id, .bool up, .slice ac n cc], .bool false]) (by simp [results, Tryd.results28, go_sem, r0, r1, r2]) rfl ?_
    rw [HE.out]
    have hs := HE3.out.is _ (List.mem_of_getElem? (show _[1]? = some (rwS ac (unS us) lc hc9) from rfl))
    exact ⟨_, cc, by rw [HN.out], frw_wide (show FRw _ _ (unS us) lc hc9 from hs.1) hs.2.2.1 hs.2.2.2, by have := HN.out; show us.length ≤ cc; omega, HE3.out.bel⟩
  | false =>
    rw [hte] at HQ2
    cases hs : u.sum == sn with
    | false =>
      have hs' : (u.sum != sn) = true := by rw [bne, hs]; rfl
      have HE : Shut (RR = (⟨id, up, us⟩, false)) := ⟨by rw [HQ2.out, hs]; rfl⟩
      refine wp_region_grow (by kernel_rfl) (by kernel_rfl) ?_
      repeat (go_big_quiet_step (first | (go_at_call 19; with_reducible exact HSU.out _)))
      refine wpQuiet_nil ?_
      rintro _ ⟨X, rfl⟩
      have H := Shut.mk (HW.out.below X.bel)
      clear p2 p3 g2
      have z0 := (H.out.bx 0 rfl 0 _ rfl).1
      have z1 := (H.out.bx 0 rfl 1 _ rfl).1
      have z2 := (H.out.bx 0 rfl 2 _ rfl).1
      obtain ⟨r0, r0z⟩ := H.out.bx 2 rfl 0 _ rfl
      obtain ⟨r1, r1z⟩ := H.out.bx 2 rfl 1 _ rfl
      obtain ⟨r2, r2z⟩ := H.out.bx 2 rfl 2 _ rfl
      go_wp2_with fail
      have HE3 := Shut.mk ((((H.out.put 2 rfl 0 (.int .i64 id) (by simp)).put 2 rfl 1 (.bool up) (by simp)).put 2 rfl 2 (.slice ac n cc) (by simp)))
      refine bodyPost_ret (v := .tuple #[.agg #[.int .i64 id, .bool up, .slice ac n cc], .bool false]) (by simp [results, Tryd.results28, go_sem, r0, r1, r2]) rfl ?_
      rw [HE.out]
      have hs := HE3.out.is _ (List.mem_of_getElem? (show _[1]? = some (rwS ac (unS us) lc hc9) from rfl))
      exact ⟨_, cc, by rw [HN.out], frw_wide (show FRw _ _ (unS us) lc hc9 from hs.1) hs.2.2.1 hs.2.2.2, by have := HN.out; show us.length ≤ cc; omega, HE3.out.bel⟩
    | true =>
      have hs' : (u.sum != sn) = false := by rw [bne, hs]; rfl
      have HE : Shut (RR = (⟨id, up, us.set k ⟨u.group, u.index, turnAt u.text (at9.toNat % u.text.size), u.sum⟩⟩, true)) := ⟨by rw [HQ2.out, hs]; rfl⟩
      refine wp_region_grow (by kernel_rfl) (by kernel_rfl) ?_
      repeat (go_big_quiet_step (first | (go_at_call 19; with_reducible exact HSU.out _)))
      refine wpQuiet_nil ?_
      rintro _ ⟨X, rfl⟩
      have H := Shut.mk (HW.out.below X.bel)
      have y2 := g2 X
      have y3 := p2 X
      clear p2 p3 g2 HW HQ2
      obtain ⟨W4, hb4⟩ := X
      dsimp only at *
      have hpos : 0 < u.text.size := by
        rcases Nat.eq_zero_or_pos u.text.size with e | e
        · exfalso
          have : u.text = ⟨#[]⟩ := by
            cases u; rename_i t _; cases t; rename_i d; simp only [ByteArray.size] at e ⊢; congr 1; exact Array.eq_empty_of_size_eq_zero e
          rw [this] at hte
          rw [toList_none] at hte
          cases hte
        · exact e
      obtain ⟨W5, c5, hcv, hrow5, hb5⟩ := bytes_made W4 u.text
      obtain ⟨bb, hbb⟩ : ∃ q, q = W4.heap.size := ⟨_, rfl⟩
      have H5 := Shut.mk (H.out.add (s := byS bb u.text.data.toList) hb5 (by rw [hbb]; exact hrow5) (byS.loc _ _) (by rw [hbb]; exact Nat.le_refl _) (by rw [hbb]; exact hrow5.1))
      rw [← hbb] at hcv
      clear hrow5 hb5 hbb hb4 H
      go_upto_region 6 with fail
      obtain ⟨j, hj⟩ : ∃ j : Nat, at9.tmod (u.text.size : Int) = (j : Int) := by
        rw [Int.tmod_eq_emod_of_nonneg hat]
        exact Int.eq_ofNat_of_zero_le (Int.emod_nonneg _ (by omega))
      have hj2 : j < u.text.size ∧ j = at9.toNat % u.text.size := by
        rw [Int.tmod_eq_emod_of_nonneg hat] at hj
        have h1 := Int.emod_lt_of_pos at9 (show (0 : Int) < (u.text.size : Int) by omega)
        obtain ⟨q, rfl⟩ := Int.eq_ofNat_of_zero_le hat
        simp only [Int.toNat_natCast] at *
        omega
      have HJ := Shut.mk hj2
      have hne : ¬ ((u.text.size : Int) = 0) := by omega
      have hL : u.text.data.toList.length = u.text.size := rfl
      obtain ⟨x, hx⟩ : ∃ o : UInt8, u.text.data.toList.getD j 0 = o := ⟨_, rfl⟩
      have hci := (show BRow W5 bb u.text.data.toList from H5.out.at 0 rfl).2 j (by have := HJ.out.1; omega)
      rw [hx] at hci
      obtain ⟨hc1, hc2⟩ := hci
      have hxo := bits_one x
      have j0 : (0 : Int) ≤ (j : Int) := by omega
      have j1 : (j : Int) < (u.text.size : Int) := by have := HJ.out.1; omega
      have HX := Shut.mk hx
      have H6 := Shut.mk (H5.out.turn 0 rfl (W' := W5.setCell ⟨bb, j, none⟩ (.int .u8 ((x ^^^ 1).toNat : Int))) (Turned.of_grown (gb_set' W5 bb j _) (Nat.le_refl _) (Nat.lt_succ_self _)) ((show BRow W5 bb u.text.data.toList from H5.out.at 0 rfl).set j (x ^^^ 1) (by have := HJ.out.1; omega)) (byS.loc _ _))
      simp only [List.set_cons_zero] at H6
      have HT : Shut ((⟨(u.text.data.toList.set j (x ^^^ 1)).toArray⟩ : ByteArray) = turnAt u.text (at9.toNat % u.text.size)) := ⟨by unfold turnAt; rw [← HJ.out.2, HX.out]⟩
      clear hj2 hx H5
      generalize x ^^^ 1 = z at *
      go_region
      all_goals
        go_upto_region 7 with fail
        refine wp_shade (fun W => SL w W [byS bb (u.text.data.toList.set j z), bxS b6 [.int .i64 id, .bool up, .slice ac n cc], rwS ac (unS us) lc hc9, bxS (w.heap.size + 1) [.int .i64 0, .bool false, .slice none 0 0], bxS w.heap.size [.int .i64 id, .bool up, .slice (some ⟨b, off, none⟩) n cap]]) (by first | exact H6.out.drew | exact H6.out) ?_
        intro W7 hW
        have H := Shut.mk hW.tail
        have hcv2 := brow_string (cap := c5) (show BRow W7 bb (u.text.data.toList.set j z) from hW.at 0 rfl)
        rw [List.length_set, hL, HT.out] at hcv2
        clear hW H6 hcv hc1 hc2 hxo hj
        generalize turnAt u.text (at9.toNat % u.text.size) = T at *
        obtain ⟨gc, rfl, hlc, hhc, hwc⟩ : ∃ gc, ac = some ⟨gc, 0, none⟩ ∧ lc ≤ gc ∧ gc < hc9 ∧ WCells W7 gc (unS us) := by
          rcases (show FRw W7 ac (unS us) lc hc9 from H.out.at 1 rfl) with ⟨_, e⟩ | q
          · have := congrArg List.length e
            rw [unS_len] at this
            simp at this
            omega
          · exact q
        obtain ⟨s2, s2z⟩ := hwc.2 (k * 4 + 2) _ (flat_get unC_len us k hf 2 (by omega))
        have z2 := (H.out.bx 0 rfl 2 _ rfl).1
        have H8 := Shut.mk (H.out.turn 1 rfl (W' := W7.setCell ⟨gc, k * 4 + 2, none⟩ (.string T)) (Turned.of_grown (gb_set' W7 gc (k * 4 + 2) _) hlc hhc) (q := fun W => FRw W (some ⟨gc, 0, none⟩) (unS (us.set k ⟨u.group, u.index, T, u.sum⟩)) lc hc9) (by
          have q1 := hwc.set (k * 4 + 2) (.string T) (by rw [unS_len]; omega)
          rw [uns_text us k hf T, ← HU.out] at q1
          exact .inr ⟨gc, rfl, hlc, hhc, q1⟩) (rwS.loc _ _ _ _))
        simp only [List.set_cons_zero, List.set_cons_succ] at H8
        clear hwc
        go_upto_region 8 with fail
        refine wp_shade (fun W => SL w W [bxS b6 [.int .i64 id, .bool up, .slice (some ⟨gc, 0, none⟩) n cc], rwS (some ⟨gc, 0, none⟩) (unS (us.set k ⟨u.group, u.index, T, u.sum⟩)) lc hc9, bxS (w.heap.size + 1) [.int .i64 0, .bool false, .slice none 0 0], bxS w.heap.size [.int .i64 id, .bool up, .slice (some ⟨b, off, none⟩) n cap]]) H8.out ?_
        intro W8 hW
        clear H z2 s2 s2z H8
        have H := Shut.mk hW
        clear hW
        have z0 := (H.out.bx 0 rfl 0 _ rfl).1
        have z1 := (H.out.bx 0 rfl 1 _ rfl).1
        have z2 := (H.out.bx 0 rfl 2 _ rfl).1
        obtain ⟨r0, r0z⟩ := H.out.bx 2 rfl 0 _ rfl
        obtain ⟨r1, r1z⟩ := H.out.bx 2 rfl 1 _ rfl
        obtain ⟨r2, r2z⟩ := H.out.bx 2 rfl 2 _ rfl
        go_wp2_with fail
        have HE3 := Shut.mk ((((H.out.put 2 rfl 0 (.int .i64 id) (by simp)).put 2 rfl 1 (.bool up) (by simp)).put 2 rfl 2 (.slice (some ⟨gc, 0, none⟩) n cc) (by simp)))
        refine bodyPost_ret (v := .tuple #[.agg #[.int .i64 id, .bool up, .slice (some ⟨gc, 0, none⟩) n cc], .bool true]) (by simp [results, Tryd.results28, go_sem, r0, r1, r2]) rfl ?_
        rw [HE.out]
        have hs := HE3.out.is _ (List.mem_of_getElem? (show _[1]? = some (rwS (some ⟨gc, 0, none⟩) (unS (us.set k ⟨u.group, u.index, T, u.sum⟩)) lc hc9) from rfl))
        exact ⟨_, cc, by show _ = Ending.returned (.tuple #[.agg #[.int .i64 id, .bool up, .slice _ (us.set k _).length cc], .bool true]); rw [List.length_set, ← HN.out], frw_wide (show FRw _ _ (unS (us.set k ⟨u.group, u.index, T, u.sum⟩)) lc hc9 from hs.1) hs.2.2.1 hs.2.2.2, by have := HN.out; show (us.set k _).length ≤ cc; rw [List.length_set]; omega, HE3.out.bel⟩
end Go.Proofs.YtbanfccnmbmcfaaDoor
