/- The draws of units. -/
import Derived.Test.YtdpcndbfbmphjaaSqA
import Derived.Test.YtdpcndbfbmphjaaMatL
namespace Go.Proofs.Ytdpcndbfbmphjaa
open Go.RowKit
attribute [local go_sem ↓] Go.wp_at_zero Go.wp_at_succ

theorem specSchemaOf (s : Nat) (w : World) (h1 : 1 ≤ s) (h3 : s ≤ 3) : Calls Try.prog 51 #[.int .i64 (s : Int)] w fun e w' => ∃ k m : Nat, e = .returned (.tuple #[.int .i64 (k : Int), .int .i64 (m : Int), .bool true]) ∧ 2 ≤ k ∧ k ≤ 4 ∧ w' = w := by
  obtain rfl | rfl | rfl : s = 1 ∨ s = 2 ∨ s = 3 := by omega
  all_goals
    go_enter Try.func51, Try.ntmps51
    go_wp2_with fail
    go_ret3
  · exact ⟨2, 1, rfl, by omega, by omega, rfl⟩
  · exact ⟨3, 2, rfl, by omega, by omega, rfl⟩
  · exact ⟨4, 2, rfl, by omega, by omega, rfl⟩
/-- Units that are drawn: two to four, all of one length. -/
def UnitsDrawn (w : World) (e : Ending) (w' : World) : Prop :=
  ∃ (x k s : Nat) (v : Value) (L : List ByteArray), e = .returned (.tuple #[.int .i64 (x : Int), v]) ∧ (1 ≤ x ∧ x ≤ 3) ∧ 2 ≤ k ∧ k ≤ 4 ∧ s ≤ 9 ∧ Un k s L ∧ SAns w' v L w.heap.size w'.heap.size ∧ Below w.heap.size w w'
theorem SAns.wide {w : World} {v : Value} {L : List ByteArray} {lo hi lo' hi' : Nat} (h : SAns w v L lo hi) (h1 : lo' ≤ lo) (h2 : hi ≤ hi') : SAns w v L lo' hi' := by
  obtain ⟨a, cap, e, hc, q⟩ := h
  refine ⟨a, cap, e, hc, ?_⟩
  rcases q with rfl | ⟨g, rfl, q1, q2, hm⟩
  · exact .inl rfl
  · exact .inr ⟨g, rfl, by omega, by omega, hm⟩
set_option maxRecDepth 100000 in
set_option maxHeartbeats 1000000 in
theorem drawUnits_any (w : World) (a : Option Addr) (len cap : Nat) (hc : CodeAt w w.heap.size a len) : Calls Try.prog 21 #[.slice a len cap] w fun e w' => UnitsDrawn w e w' := by
  obtain ⟨i0, hi0, hz0, hz1, hz2⟩ := info_parts infoTextG
  have HC : Hid (CodeAt w w.heap.size a len) := hc
  clear hc
  go_enter Try.func21, Try.ntmps21
  go_wp2_with fail
  refine (l01New_any _ a len cap HC.out).mono ?_
  rintro e w0 ⟨g, rfl, hg, hcur, hb0⟩
  have HC0 := Shut.mk hcur
  have HB0 := Shut.mk hb0
  clear hcur hb0
  go_wp2_with fail
  refine (l01Below_any _ g _ a len cap 3 (by omega) HC0.out).mono ?_
  rintro e w1 ⟨x, rfl, x0, x1, hc1, hg1⟩
  obtain ⟨m, rfl⟩ := Int.eq_ofNat_of_zero_le x0
  have HC1 := Shut.mk hc1
  have HB1 := Shut.mk (HB0.out.trans (below_gb hg1 hg HB0.out.size))
  obtain ⟨sc, hsc⟩ : ∃ n : Nat, n = m + 1 := ⟨_, rfl⟩
  have hni : (1 : Int) + (m : Int) = (sc : Int) := by omega
  have hs1 : 1 ≤ sc := by omega
  have hs3 : sc ≤ 3 := by omega
  clear hc1 hg1 HC0 HB0 hsc
  go_wp2_with fail
  refine (specSchemaOf sc _ hs1 hs3).mono ?_
  rintro e w2 ⟨k, m2, rfl, hk2, hk4, hw⟩
  obtain rfl : w1 = w2 := hw.symm
  clear hw
  go_wp2_with fail
  refine (l01Below_any _ g _ a len cap 9 (by omega) HC1.out).mono ?_
  rintro e w2 ⟨y, rfl, y0, y1, hc2, hg2⟩
  obtain ⟨s, rfl⟩ := Int.eq_ofNat_of_zero_le y0
  have hs9 : s ≤ 9 := by omega
  have HB2 := Shut.mk (HB1.out.trans (below_gb hg2 hg HB1.out.size))
  have hgw : g < w2.heap.size := hc2.2.1
  have hal : Below w2.heap.size w2 (w2.alloc (.cells #[] 9)) := (Below.refl _ _).alloc (Nat.le_refl _) _
  have HC2 := Shut.mk (hc2.below hal)
  have HG2 := Shut.mk (gb_below (row := some g) hal)
  have HO2 : Shut ((w2.alloc (.cells #[] 9)).ownsRow w2.heap.size 9 1 (.slice (some ⟨w2.heap.size, 0, none⟩) 0 0) 0 (tv [])) := ⟨World.ownsRow_made w2 #[] 0 (Nat.le_refl _) (by decide) rfl⟩
  clear hc2 hg2 HC1 HB1 hal
  go_wp2_with fail
  go_loopw [10, 11] (fun v i wr => ∃ (t : Nat) (L : List ByteArray) (vv : Value), vv = v ∧ i = .int .i64 t ∧ t ≤ k ∧ Shut (Un t s L) ∧ Shut (wr.ownsRow w2.heap.size 9 1 vv t (tv L)) ∧ Shut (Cur wr g w.heap.size a len cap) ∧ Shut (w2.grownBy wr (some g))) (fun _ i _ => k - (intOf i).toNat)
  case atStart => exact ⟨0, [], _, rfl, rfl, by omega, ⟨⟨rfl, by simp⟩⟩, HO2, HC2, HG2⟩
  case round =>
    clear HO2 HC2 HG2
    obtain ⟨t, L, v, rfl, rfl, ht, hun, hown, hcu, hgb⟩ := hrel
    obtain ⟨wi, rfl⟩ : ∃ wi, wi = wr := ⟨_, rfl⟩
    by_cases hlt : t < k
    · have hlt' : (t : Int) < (k : Int) := by omega
      go_wp2_with fail
      refine (l01Text_len _ g _ a len cap s (by omega) hcu.out).mono ?_
      rintro e w3 ⟨u, rfl, hu, hc3, hg3⟩
      have HC3 := Shut.mk hc3
      have HG3 := Shut.mk (gb_two hgb.out hg3)
      have hown3 := own_gbr hown.out hg3 hgw
      have hs3 : w2.heap.size ≤ w3.heap.size := HG3.out.size
      have HU := Shut.mk hu
      clear hc3 hg3 hcu hgb hown hu
      go_wp2_with (at_builtin; refine wpList_append_own _ rfl _ _ 34 rfl w2.heap.size 9 i0 (.string ⟨#[]⟩) 1 16 Try.underlying34 hi0 hz0 hz1 hz2 rfl (by decide) _ _ _ rfl (hown3.alloc _) ⟨w3.heap.size, 0, none⟩ 1 1 [.string u] rfl rfl (cell_one_new _ _ _) ?c2 ?c3 ?c4 ?c5 ?_)
      case c2 => first | rfl | (intro u hu; simp at hu; subst hu; rfl)
      case c3 => unfold maxLen; omega
      case c4 => omega
      case c5 => first | omega | (simp; omega)
      intro v' w4 hown' hgrow _
      obtain ⟨q1, q2⟩ := row_step (Nat.le_refl _) hgw (gb_below (Below.refl _ _)) HG3.out HC3.out hown3 hgrow
      rw [tv_snoc] at hown'
      have Q1 := Shut.mk q1
      have Q2 := Shut.mk q2
      have Q3 := Shut.mk hown'
      clear hown' hgrow hown3 q1 q2
      go_wp2_with fail
      go_roundw
      case rel => exact ⟨t + 1, L ++ [u], v', rfl, by go_num, by omega, ⟨⟨by have := hun.out.len; simp; omega, fun z hz => by rcases List.mem_append.1 hz with h | h; exact hun.out.size z h; simp at h; subst h; exact HU.out⟩⟩, Q3, Q1, Q2⟩
      case measure => simp [intOf]; omega
    · have e : t = k := by omega
      have hlt' : ¬ (t : Int) < (k : Int) := by omega
      have HF := Shut.mk (own_sans hun.out.len hown.out)
      have HUN : Shut (Un k s L) := ⟨by rw [← e]; exact hun.out⟩
      have HBF := Shut.mk (HB2.out.trans (below_gb hgb.out hg HB2.out.size))
      have z2 := HB2.out.size
      clear e hun hown
      go_wp2_with fail
      go_ret2
      exact ⟨sc, k, s, v, L, rfl, ⟨hs1, by omega⟩, hk2, hk4, hs9, HUN.out, HF.out.wide z2 (Nat.le_refl _), HBF.out⟩
end Go.Proofs.Ytdpcndbfbmphjaa
