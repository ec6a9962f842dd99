/- The models' l14Copy, l14At, GetUnit. -/
import Derived.Test.YtbanfccnmbmcfaaDoorSpH
import Derived.Test.YtbanfccnmbmcfaaDoorApRow
namespace Go.Proofs.YtbanfccnmbmcfaaDoor
set_option maxRecDepth 100000
open Go.RowKit BigFrame
attribute [local go_sem ↓] Go.wp_at_zero Go.wp_at_succ

theorem uns_one (us : List UnM) : ∀ u ∈ unS us, u.oneCell' = true := by
  intro u hu
  unfold unS at hu
  obtain ⟨x, _, hx⟩ := List.mem_flatMap.1 hu
  simp only [unC, List.mem_cons, List.not_mem_nil, or_false] at hx
  rcases hx with rfl | rfl | rfl | rfl <;> rfl
set_option maxHeartbeats 1000000 in
theorem specCopy14 (H : HM) (a : Option Addr) (cap : Nat) (w : World) (hr : UnRow w a H.us) (hl : H.us.length ≤ 1048576) :
    Calls Tryd.prog 48 #[hov H a cap] w fun e w' => HoPost H w e w' := by
  obtain ⟨i0, hin, hz0, hz1, hz2⟩ := info_parts infoUnit
  have HS0 := Shut.mk (((SL.start w).new #[.int .i64 H.id, .bool H.up, .slice a H.us.length cap] 26).new #[.int .i64 0, .bool false, .slice none 0 0] 26)
  simp only [World.size_alloc] at HS0
  have HR := Shut.mk hr
  clear hr
  obtain ⟨id, up, us⟩ := H
  show Calls Tryd.prog 48 #[.agg #[.int .i64 id, .bool up, .slice a us.length cap]] w fun e w' => HoPost ⟨id, up, us⟩ w e w'
  dsimp only at *
  obtain ⟨n, hn⟩ : ∃ n, n = us.length := ⟨_, rfl⟩
  have HN := Shut.mk hn
  rw [← hn] at HS0 hl ⊢
  clear hn
  go_enter Tryd.func48, Tryd.ntmps48
  go_upto_region 1 with fail
  refine wp_shade (fun W => SL w W [bxS (w.heap.size + 1) [.int .i64 0, .bool false, .slice none 0 0], bxS w.heap.size [.int .i64 id, .bool up, .slice a n cap]]) HS0.out ?_
  intro W hW
  have HW := Shut.mk hW
  clear HS0 hW
  have HO := Shut.mk (OwS.new (ty := 32) (sz := 4) HW.out)
  have hsz := HW.out.bel.size
  have lw := (show WCells W w.heap.size _ from HW.out.at 1 rfl).1
  have x2 := (HW.out.bx 1 rfl 2 _ rfl).1
  go_upto_region 2 with (at_builtin; refine wpList_append_row _ rfl _ _ 24 rfl w.heap.size 32 i0 _ 4 40 Tryd.underlying24 hin hz0 hz1 hz2 rfl (by decide) _ _ _ rfl HO.out.own a n cap (unS us) rfl (by rw [unS_len, HN.out]) (HR.out.stays HO.out.sl.bel) (uns_one us) (by unfold maxLen; omega) (by omega) HO.out.sl.bel.size ?_; intro v6 w6 ho6 hg6 ha6; obtain ⟨a7, c7, rfl⟩ := own_row_slice ho6; have H6 := Shut.mk (HO.out.more (Below.refl _ _) ho6 hg6 ha6); obtain ⟨y2, y2z⟩ := H6.out.sl.bx 1 rfl 2 _ rfl; clear ho6 hg6 ha6 x2 HO; simp only [Nat.zero_add, List.nil_append] at H6)
  have HP := Shut.mk (H6.out.put 1 rfl 2 (.slice a7 n c7) (by simp))
  simp only [List.set_cons_zero, List.set_cons_succ] at HP
  refine wp_shade (fun W' => OwS w W' [bxS (w.heap.size + 1) [.int .i64 0, .bool false, .slice none 0 0], bxS w.heap.size [.int .i64 id, .bool up, .slice a7 n c7]] 32 4 (.slice a7 n c7) n (unS us)) HP.out ?_
  intro W7 h7
  have H7 := Shut.mk h7
  clear h7 HP H6 y2 y2z
  have z0 := (H7.out.sl.bx 1 rfl 0 _ rfl).1
  have z1 := (H7.out.sl.bx 1 rfl 1 _ rfl).1
  have z2 := (H7.out.sl.bx 1 rfl 2 _ rfl).1
  obtain ⟨r0, r0z⟩ := H7.out.sl.bx 0 rfl 0 _ rfl
  obtain ⟨r1, r1z⟩ := H7.out.sl.bx 0 rfl 1 _ rfl
  obtain ⟨r2, r2z⟩ := H7.out.sl.bx 0 rfl 2 _ rfl
  go_wp2_with fail
  have HE := Shut.mk ((((H7.out.put 0 rfl 0 (.int .i64 id) (by simp)).put 0 rfl 1 (.bool up) (by simp)).put 0 rfl 2 (.slice a7 n c7) (by simp)))
  obtain ⟨a8, c8, e8, hf8, hc8⟩ := HE.out.frw
  obtain ⟨rfl, rfl⟩ : a7 = a8 ∧ c7 = c8 := by simpa using e8
  refine bodyPost_ret (v := .agg #[.int .i64 id, .bool up, .slice a7 n c7]) (by simp [results, Tryd.results48, go_sem, r0, r1, r2]) rfl ⟨a7, c7, by rw [HN.out], hf8, by have := HN.out; show us.length ≤ c7; omega, HE.out.sl.bel⟩
/-- The place of a unit. -/
def atN (us : List UnM) (g i : Int) : Int := if unIdx us g i < us.length then (unIdx us g i : Int) else -1
theorem unIdx_found {L : List UnM} {g i : Int} {k : Nat} (hk : k < L.length) (h : (L[k].group == g && L[k].index == i) = true) (hb : ∀ j (hj : j < L.length), j < k → (L[j].group == g && L[j].index == i) = false) : unIdx L g i = k := by
  unfold unIdx
  rw [List.findIdx_eq hk]
  exact ⟨h, fun j hj => hb j (by omega) hj⟩
theorem unIdx_none {L : List UnM} {g i : Int} (hb : ∀ j (hj : j < L.length), (L[j].group == g && L[j].index == i) = false) : unIdx L g i = L.length := by
  unfold unIdx
  rw [List.findIdx_eq_length]
  intro x hx
  obtain ⟨j, hj, rfl⟩ := List.getElem_of_mem hx
  exact hb j hj
theorem atN_found {L : List UnM} {g i : Int} {k : Nat} (hk : k < L.length) (h : (L[k].group == g && L[k].index == i) = true) (hb : ∀ j (hj : j < L.length), j < k → (L[j].group == g && L[j].index == i) = false) : atN L g i = (k : Int) := by
  unfold atN; rw [unIdx_found hk h hb, if_pos hk]
theorem atN_none {L : List UnM} {g i : Int} (hb : ∀ j (hj : j < L.length), (L[j].group == g && L[j].index == i) = false) : atN L g i = -1 := by
  unfold atN; rw [unIdx_none hb, if_neg (Nat.lt_irrefl _)]
set_option maxHeartbeats 1000000 in
theorem specAt14 (H : HM) (a : Option Addr) (cap : Nat) (g i : Int) (w : World) (hr : UnRow w a H.us) (hl : H.us.length ≤ 1048576) :
    Calls Tryd.prog 44 #[hov H a cap, .int .i64 g, .int .i64 i] w fun e w' => e = .returned (.int .i64 (atN H.us g i)) ∧ Below w.heap.size w w' := by
  have HS0 := Shut.mk ((SL.start w).new #[.int .i64 H.id, .bool H.up, .slice a H.us.length cap] 26)
  have HR := Shut.mk hr
  clear hr
  obtain ⟨id, up, us⟩ := H
  show Calls Tryd.prog 44 #[.agg #[.int .i64 id, .bool up, .slice a us.length cap], .int .i64 g, .int .i64 i] w fun e w' => e = .returned (.int .i64 (atN us g i)) ∧ Below w.heap.size w w'
  dsimp only at *
  obtain ⟨n, hn⟩ : ∃ n, n = us.length := ⟨_, rfl⟩
  have HN := Shut.mk hn
  rw [← hn] at HS0 hl ⊢
  clear hn
  obtain ⟨R, hR⟩ : ∃ R, R = atN us g i := ⟨_, rfl⟩
  rw [← hR]
  have HQ := Shut.mk hR
  clear hR
  go_enter Tryd.func44, Tryd.ntmps44
  go_upto_region 1 with fail
  refine wp_shade (fun W => SL w W [bxS w.heap.size [.int .i64 id, .bool up, .slice a n cap]]) HS0.out ?_
  intro W0 hW
  have HW := Shut.mk hW
  clear HS0 hW
  have x2 := (HW.out.bx 0 rfl 2 _ rfl).1
  go_wp2_with fail
  go_loop [7] (fun i9 => ∃ (k : Nat), i9 = .int .i64 k ∧ k ≤ n ∧ Shut (∀ j (hj : j < us.length), j < k → (us[j].group == g && us[j].index == i) = false)) (fun i9 => n - (intOf i9).toNat)
  case atStart => exact ⟨0, rfl, Nat.zero_le _, ⟨fun j _ hj => by omega⟩⟩
  case round =>
    obtain ⟨k, rfl, hk, HG⟩ := hrel
    by_cases hlt : k < n
    · have hku : k < us.length := by rw [← HN.out]; exact hlt
      obtain ⟨b, off, rfl, lb, hc⟩ := UnRow.at (HR.out.stays HW.out.bel) (by omega)
      obtain ⟨d0, d1, d2, d3⟩ := hc k hku
      have HF : Shut ((us[k].group == g && us[k].index == i) = true → R = (k : Int)) := ⟨fun h => HQ.out.trans (atN_found hku h HG.out)⟩
      have HNX : Shut ((us[k].group == g && us[k].index == i) = false → ∀ j (hj : j < us.length), j < k + 1 → (us[j].group == g && us[j].index == i) = false) := ⟨fun h j hj hjk => by
        rcases Nat.lt_succ_iff_lt_or_eq.1 hjk with e | e
        · exact HG.out j hj e
        · subst e; exact h⟩
      obtain ⟨u, hu⟩ : ∃ u, u = us[k] := ⟨_, rfl⟩
      rw [← hu] at d0 d1 d2 d3 HF HNX
      have k0 : (0 : Int) ≤ (k : Int) := by omega
      have k1 : (k : Int) < (n : Int) := by omega
      clear hc hu d2 d3
      cases h1 : u.group == g with
      | false =>
        have HX := Shut.mk (HNX.out (by rw [h1]; rfl))
        go_wp2_with fail
        go_round
        case rel => exact ⟨k + 1, by go_num, by omega, HX⟩
        case measure => simp [intOf]; omega
      | true =>
        cases h2 : u.index == i with
        | false =>
          have HX := Shut.mk (HNX.out (by rw [h1, h2]; rfl))
          go_wp2_with fail
          go_round
          case rel => exact ⟨k + 1, by go_num, by omega, HX⟩
          case measure => simp [intOf]; omega
        | true =>
          have HX := Shut.mk (HF.out (by rw [h1, h2]; rfl))
          go_wp2_with fail
          go_ret
          exact ⟨by rw [HX.out]; rfl, HW.out.bel⟩
    · have HX : Shut (R = -1) := ⟨HQ.out.trans (atN_none fun j hj => HG.out j hj (by have := HN.out; omega))⟩
      obtain rfl : k = n := by omega
      go_wp2_with fail
      go_ret
      exact ⟨by rw [HX.out]; rfl, HW.out.bel⟩
end Go.Proofs.YtbanfccnmbmcfaaDoor
