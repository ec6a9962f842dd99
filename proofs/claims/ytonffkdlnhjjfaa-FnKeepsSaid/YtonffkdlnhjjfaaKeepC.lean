/- Numbers of what is left, and disks that are the same. -/
import Derived.Test.YtonffkdlnhjjfaaKeepA
import Derived.Test.YtonffkdlnhjjfaaLawM
namespace Go.Proofs.Ytonffkdlnhjjfaa
open Go.RowKit
attribute [local go_sem ↓] Go.wp_at_zero Go.wp_at_succ

def LeftsPost (w : World) (e : Ending) (w' : World) : Prop :=
  ∃ va c ll, e = .returned (.slice va 6 c) ∧ List.length (α := Int) ll = 6 ∧ CRow w' va (ll.map fun x => .int .i64 x) ∧ Below w.heap.size w w'
set_option maxHeartbeats 1000000 in
set_option maxRecDepth 100000 in
theorem lefts_any (w : World) (gp cap : Nat) (l : List Int) (hl : l.length = 12) (hx : ∀ x ∈ l, 0 ≤ x ∧ x < 10000) (hgp : gp < w.heap.size) (hc : ∀ j, j < 12 → w.cell? ⟨gp, j, none⟩ = some (.int .i64 (l.getD j 0))) :
    Calls Try.prog 7 #[.slice (some ⟨gp, 0, none⟩) 12 cap] w fun e w' => LeftsPost w e w' := by
  obtain ⟨i0, hi, hz0, hz1, hz2⟩ := info_parts infoInt
  have HC : Hid (∀ j, j < 12 → w.cell? ⟨gp, j, none⟩ = some (.int .i64 (l.getD j 0))) := hc
  have HX : Hid (∀ x ∈ l, 0 ≤ x ∧ x < 10000) := hx
  have hown0 := World.ownsRow_made (base := w.heap.size) (e := 3) (size := 1) w #[] 0 (Nat.le_refl _) (by unfold maxLen; omega) (by simp)
  have HO0 : Hid ((w.alloc (.cells #[] 3)).ownsRow w.heap.size 3 1 (.slice (some ⟨w.heap.size, 0, none⟩) 0 0) 0 []) := hown0
  have HB0 : Hid (Below w.heap.size w (w.alloc (.cells #[] 3))) := (Below.refl _ _).alloc (Nat.le_refl _) _
  clear hc hx hown0
  go_enter Try.func7, Try.ntmps7
  go_wp2_with fail
  go_loopw [3, 4] (fun v i wr => ∃ (k : Nat) (ll : List Int), i = .int .i64 k ∧ k ≤ 6 ∧ ll.length = k ∧ wr.ownsRow w.heap.size 3 1 v k (ll.map fun x => .int .i64 x) ∧ Below w.heap.size w wr) (fun _ i _ => 6 - (intOf i).toNat)
  case atStart => exact ⟨0, [], rfl, by omega, rfl, by simpa using HO0.out, HB0.out⟩
  case round =>
    clear HO0 HB0
    obtain ⟨k, ll, rfl, hk, hll, hown, hb⟩ := hrel
    have HB : Hid (Below w.heap.size w wr) := hb
    by_cases hlt : k < 6
    · have c0 := HC.out k (by omega)
      rw [← hb.cell (p := ⟨gp, k, none⟩) hgp] at c0
      have hxk := HX.out (l.getD k 0) (by rw [show l.getD k 0 = l[k] by simp [List.getD, show k < l.length by omega]]; exact List.getElem_mem _)
      generalize l.getD k 0 = x at *
      have k0 : (0 : Int) ≤ (k : Int) := by omega
      have k1 : (k : Int) < 12 := by omega
      have k2 : (k : Int) < 6 := by omega
      clear hb
      go_wp2_with (at_builtin; refine wpList_append_own _ rfl _ _ 28 rfl w.heap.size 3 i0 (.int .i64 0) 1 8 Try.underlying28 hi hz0 hz1 hz2 rfl (by decide) _ _ _ rfl (hown.alloc _) ⟨wr.heap.size, 0, none⟩ 1 1 [.int .i64 _] rfl rfl (cell_one_new _ _ _) (by simp [Value.oneCell']) (by unfold maxLen; omega) (by omega) (by have := HB.out.size; simp; omega) ?_; intro v' w6 hown' hg6 hnil6)
      go_roundw
      case rel =>
        refine ⟨k + 1, ll ++ [x % 300], by go_num, by omega, by simp [hll], ?_, (HB.out.alloc HB.out.size _).grown hg6 (by have := HB.out.size; simp; omega) (fun j hj => (hown.lt j hj).1)⟩
        rw [List.map_append]
        exact hown'
      case measure => simp [intOf]; omega
    · have e : k = 6 := by omega
      subst e
      obtain ⟨va, c, rfl⟩ : ∃ va c, u3 = .slice va 6 c := by
        rcases hown.2 with ⟨_, h⟩ | ⟨g, cp, cur, h, _⟩
        · omega
        · exact ⟨_, _, h⟩
      have HR : Hid (CRow wr va (ll.map fun x => .int .i64 x)) := (FRw.of_own hown).1.crow
      clear hb
      go_wp2_with fail
      go_ret
      exact ⟨va, c, ll, rfl, hll, HR.out, HB.out⟩
set_option maxHeartbeats 1000000 in
theorem sameDisk_same (a b : Option Addr) (fs : List FM) (ca cb : Nat) (w : World) (ha : FRow w a fs) (hb' : FRow w b fs) (hl : fs.length ≤ 1048576) :
    Calls Try.prog 10 #[.agg #[.slice a fs.length ca], .agg #[.slice b fs.length cb]] w fun e w' => e = .returned (.bool true) ∧ Below w.heap.size w w' := by
  have m0 : Mem w w [] [] := ⟨by simp, by simp, Below.refl _ _⟩
  have m1 := (m0.box #[.slice a fs.length ca] 26).box #[.slice b fs.length cb] 26
  simp only [World.size_alloc] at m1
  have M1 : Shut (Mem w ((w.alloc (.cells #[.slice a fs.length ca] 26)).alloc (.cells #[.slice b fs.length cb] 26)) [(w.heap.size + 1, [.slice b fs.length cb]), (w.heap.size, [.slice a fs.length ca])] []) := ⟨m1⟩
  have HA : Hid (FRow w a fs) := ha
  have HB' : Hid (FRow w b fs) := hb'
  clear ha hb' m0 m1
  go_enter Try.func10, Try.ntmps10
  go_wp2_with fail
  go_loopw [5] (fun i wr => ∃ (k : Nat), i = .int .i64 k ∧ k ≤ fs.length ∧ Shut (Mem w wr [(w.heap.size + 1, [.slice b fs.length cb]), (w.heap.size, [.slice a fs.length ca])] [])) (fun i _ => fs.length - (intOf i).toNat)
  case atStart => exact ⟨0, rfl, Nat.zero_le _, M1⟩
  case round =>
    clear M1
    obtain ⟨k, rfl, hk, hm⟩ := hrel
    have x0 := hm.out.cell1
    have y0 := hm.out.cell0
    by_cases hlt : k < fs.length
    · obtain ⟨b1, o1, rfl, l1, c1⟩ := FRow.at (HA.out.stays hm.out.low) (by omega)
      obtain ⟨b2, o2, rfl, l2, c2⟩ := FRow.at (HB'.out.stays hm.out.low) (by omega)
      obtain ⟨p0, p1, p2⟩ := c1 k hlt
      obtain ⟨q0, q1, q2⟩ := c2 k hlt
      obtain ⟨f, hfe⟩ : ∃ f, f = fs[k] := ⟨_, rfl⟩
      rw [← hfe] at p0 p1 p2 q0 q1 q2
      have k0 : (0 : Int) ≤ (k : Int) := by omega
      have k1 : (k : Int) < (fs.length : Int) := by omega
      have HMN : ∀ q, Shut (Mem w (wr.drewN q) [(w.heap.size + 1, [.slice (some ⟨b2, o2, none⟩) fs.length cb]), (w.heap.size, [.slice (some ⟨b1, o1, none⟩) fs.length ca])] []) := fun q => ⟨hm.out.below ⟨rfl, rfl, rfl, Nat.le_refl _, fun _ _ => rfl⟩⟩
      clear hfe c1 c2
      go_wp2_with fail
      go_quiet (fail)
      go_wp2_with fail
      go_roundw
      case rel => exact ⟨k + 1, by go_num, by omega, HMN _⟩
      case measure => simp [intOf]; omega
    · have e : k = fs.length := by omega
      subst e
      have HB : Hid (Below w.heap.size w wr) := hm.out.low
      go_wp2_with fail
      go_ret
      exact ⟨rfl, HB.out⟩
end Go.Proofs.Ytonffkdlnhjjfaa
