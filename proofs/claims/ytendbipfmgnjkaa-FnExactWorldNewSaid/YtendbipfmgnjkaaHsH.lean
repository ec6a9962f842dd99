/- Marks in rows of hosts, found again. -/
import Derived.Test.YtendbipfmgnjkaaHsB
import Derived.Test.YtendbipfmgnjkaaUnRm
namespace Go.Proofs.Ytendbipfmgnjkaa
set_option maxRecDepth 100000
open Go.RowKit BigFrame
attribute [local go_sem ↓] Go.wp_at_zero Go.wp_at_succ
set_option maxRecDepth 100000 in
set_option maxHeartbeats 2000000 in
theorem heldHostS_any (a : Option Addr) (rs : List HoR) (k9 ca : Nat) (hs : List HM) (w : World) (ha : HsRow w a rs) (he : hms rs = marksH k9 hs) (hk : 0 < k9) (hn : endH k9 hs ≤ 1000000000) :
    Calls Try.prog 42 #[.slice a rs.length ca, .int .i64 k9] w fun e w' => e = .returned (.int .i64 (endH k9 hs : Nat)) ∧ Below w.heap.size w w' := by
  have hlen : rs.length = hs.length := by rw [← hms_len rs, he, marksH_len]
  obtain ⟨n, hnn⟩ : ∃ n, n = rs.length := ⟨_, rfl⟩
  have HN := Shut.mk (And.intro hnn (hnn.trans hlen))
  rw [← hnn]
  have HA := Shut.mk ha
  have HE := Shut.mk he
  have HEN : Shut (∀ j, j ≤ n → endH k9 (hs.take j) ≤ endH k9 hs) := ⟨fun j _ => by
    rw [endH_eq, endH_eq]
    have e1 : hs.length = (hs.take j).length + (hs.drop j).length := by rw [← List.length_append, List.take_append_drop]
    have e2 : (hs.map fun h => h.us.length).sum = ((hs.take j).map fun h => h.us.length).sum + ((hs.drop j).map fun h => h.us.length).sum := by rw [← List.sum_append, ← List.map_append, List.take_append_drop]
    omega⟩
  have HLO : Shut (∀ j, k9 ≤ endH k9 (hs.take j)) := ⟨fun j => by rw [endH_eq]; omega⟩
  have hl : n ≤ 1000000000 := by have := endH_eq k9 hs; have := HN.out.2; omega
  clear ha he hnn hlen
  go_enter Try.func42, Try.ntmps42
  go_wp2_with fail
  go_loopw [1, 5] (fun v i wr => ∃ (k c : Nat), v = .int .i64 c ∧ i = .int .i64 k ∧ k ≤ n ∧ Shut (c = endH k9 (hs.take k)) ∧ Shut (Below w.heap.size w wr)) (fun _ i _ => n - (intOf i).toNat)
  case atStart => exact ⟨0, k9, rfl, rfl, Nat.zero_le _, ⟨by simp [endH]⟩, ⟨Below.refl _ _⟩⟩
  case round =>
    obtain ⟨k, c, rfl, rfl, hk, HC, HW⟩ := hrel
    by_cases hlt : k < n
    · have hka : k < rs.length := by have := HN.out.1; omega
      have hks : k < hs.length := by have := HN.out.2; omega
      obtain ⟨b, off, r, rfl, hre, lb, hc⟩ := hs_at HA.out HW.out hka
      have hrh : r.h = ⟨(c : Nat), (c + 1) % 3 == 0, marksU (c + 2) hs[k].us.length⟩ := by
        have q : (hms rs)[k]'(by rw [hms_len]; exact hka) = (marksH k9 hs)[k]'(by rw [marksH_len]; exact hks) := by simp only [HE.out]
        rw [marksH_at k9 hs k hks, ← HC.out] at q
        rw [← q, hre]
        simp [hms]
      have hcb : c + 2 + 4 * hs[k].us.length ≤ 1000000000 := by
        have q1 := HEN.out (k + 1) (by omega)
        rw [endH_take k9 hs k hks, ← HC.out] at q1
        omega
      have HNX : Shut (c + 2 + 4 * hs[k].us.length = endH k9 (hs.take (k + 1))) := ⟨by rw [endH_take k9 hs k hks, ← HC.out]⟩
      have hc0 : 0 < c := by have := HLO.out k; have := HC.out; omega
      obtain ⟨m, hm⟩ : ∃ m, m = hs[k].us.length := ⟨_, rfl⟩
      rw [← hm] at hrh hcb HNX
      have HRW := Shut.mk (fun (x : World) (hx : Below wr.heap.size wr x) => (hc x hx).2.2.2)
      obtain ⟨d0, d1, d2, -⟩ := hc wr (Below.refl _ _)
      obtain ⟨⟨rid, rup, rus⟩, loc, cp⟩ := r
      dsimp only at hrh d0 d1 d2 HRW
      obtain ⟨e0, e1, e2⟩ : rid = (c : Int) ∧ rup = ((c + 1) % 3 == 0) ∧ rus = marksU (c + 2) m := by
        simp only [HM.mk.injEq] at hrh
        exact hrh
      have hlm : rus.length = m := by rw [e2, marksU_len]
      obtain ⟨up, hup⟩ : ∃ q, q = ((c + 1) % 3 == 0) := ⟨_, rfl⟩
      have hq2 : (((c : Int) + 1) % 3 == 0) = up := by
        rw [hup, ← mod3, Int.tmod_eq_emod_of_nonneg (by omega)]
        push_cast
        rfl
      rw [hlm] at d2
      rw [e0] at d0
      rw [e1, ← hup] at d1
      rw [e2] at HRW
      have HUS : Shut (Calls Try.prog 71 #[.slice loc m cp, .int .i64 ((c : Int) + 2)] wr fun e w' => e = .returned (.int .i64 (c + 2 + 4 * m : Nat)) ∧ Below wr.heap.size wr w') := ⟨by
        have q := heldUnitS_any loc (c + 2) m cp wr (HRW.out wr (Below.refl _ _)) (by omega) hcb
        rwa [show ((c + 2 : Nat) : Int) = (c : Int) + 2 by omega] at q⟩
      have hw1 : IntKind.i64.wrap ((c : Int) + 1) = (c : Int) + 1 := IntWalk.i64_in _ ⟨by omega, by omega⟩
      have hw2 : IntKind.i64.wrap ((c : Int) + 1 + 1) = ((c + 2 : Nat) : Int) := by rw [IntWalk.i64_in _ ⟨by omega, by omega⟩]; omega
      have huu : (up != up) = false := by simp
      have k0 : (0 : Int) ≤ (k : Int) := by omega
      have k1 : (k : Int) < (n : Int) := by omega
      have hneg : ¬ ((c + 2 + 4 * m : Nat) : Int) < 0 := by omega
      clear hre hrh hc e0 e1 e2 hlm hup hm HRW
      go_wp2_with fail
      refine HUS.out.mono ?_
      rintro e w2 ⟨rfl, hb⟩
      have HW2 := Shut.mk (HW.out.trans (hb.mono HW.out.size))
      clear hb d0 d1 d2
      go_wp2_with fail
      go_roundw
      case rel => exact ⟨k + 1, c + 2 + 4 * m, rfl, by go_num, by omega, HNX, HW2⟩
      case measure => simp [intOf]; omega
    · obtain rfl : n = k := by omega
      have HF : Shut (endH k9 hs = c) := ⟨by rw [HC.out, List.take_of_length_le (by have := HN.out.2; omega)]⟩
      go_wp2_with fail
      go_ret
      exact ⟨by rw [HF.out]; rfl, HW.out⟩
end Go.Proofs.Ytendbipfmgnjkaa
