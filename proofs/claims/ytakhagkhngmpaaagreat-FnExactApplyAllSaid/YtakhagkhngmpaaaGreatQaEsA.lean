/- Texts of ours, laid one behind the other: EsA. -/
import Derived.Test.YtakhagkhngmpaaaGreatQa9
import Derived.Test.YtakhagkhngmpaaaGreatQa3
import Derived.Test.YtakhagkhngmpaaaGreatQa2
import Derived.PlainAid
import Derived.OwnWalk
import Derived.Deep.RegionHeld3
import Derived.Deep.DrawnRows
/- EsA: . -/
namespace Go.Proofs.YtakhagkhngmpaaaGreat
set_option maxRecDepth 100000
open Go.RowKit
attribute [local go_sem ↓] Go.wp_at_zero Go.wp_at_succ
abbrev ERow (w : World) (a : Option Addr) (fs : List EM) : Prop := CRow w a (ecs fs)
theorem ERow.at {w : World} {a : Option Addr} {fs : List EM} (h : ERow w a fs) (hp : 0 < fs.length) :
  ∃ b off, a = some ⟨b, off, none⟩ ∧ b < w.heap.size ∧ ∀ j (h : j < fs.length), w.cell? ⟨b, off + j * 5, none⟩ = some (.int .i64 fs[j].kind) ∧ w.cell? ⟨b, off + j * 5 + 1, none⟩ = some (.string fs[j].path) ∧ w.cell? ⟨b, off + j * 5 + 2, none⟩ = some (.string fs[j].dest) ∧ w.cell? ⟨b, off + j * 5 + 3, none⟩ = some (.int .i64 fs[j].num) ∧ w.cell? ⟨b, off + j * 5 + 4, none⟩ = some (.int .i64 fs[j].who) := by
 obtain ⟨b, off, e, hb, hc⟩ := h (by rw [ecs_len]; omega)
 exact ⟨b, off, e, hb, fun j hj => ⟨hc (j * 5) _ (flat_get ecells_len fs j hj 0 (by omega)), hc (j * 5 + 1) _ (flat_get ecells_len fs j hj 1 (by omega)), hc (j * 5 + 2) _ (flat_get ecells_len fs j hj 2 (by omega)), hc (j * 5 + 3) _ (flat_get ecells_len fs j hj 3 (by omega)), hc (j * 5 + 4) _ (flat_get ecells_len fs j hj 4 (by omega))⟩⟩
def ESFit (fs : List EM) : Prop := fs.length ≤ 9223372036854775807 ∧ ∀ f ∈ fs, EdFit f
def esum : List EM → Nat
 | [] => 0
 | f :: fs => f.path.size + f.dest.size + esum fs
theorem esum_take (fs : List EM) (k : Nat) (h : k < fs.length) : esum (fs.take (k + 1)) = esum (fs.take k) + (fs[k].path.size + fs[k].dest.size) := by
 induction fs generalizing k with
 | nil => simp at h
 | cons f fs ih =>
  cases k with
  | zero => simp [esum]
  | succ k =>
   have := ih k (by simpa using h)
   simp only [List.take_succ_cons, esum, List.getElem_cons_succ]
   omega
theorem esum_mem {fs : List EM} {f : EM} (h : f ∈ fs) : f.path.size + f.dest.size ≤ esum fs := by
 induction fs with
 | nil => cases h
 | cons g fs ih =>
  rcases List.mem_cons.1 h with rfl | q
  ·simp only [esum]; omega
  ·have := ih q
   simp only [esum]; omega
def SzPostE (left : Int) (n : Nat) (w : World) (e : Ending) (w' : World) : Prop := ∃ r : Int, e = .returned (.int .i64 r) ∧ -1 ≤ r ∧ (0 ≤ r → r + n = left) ∧ Below w.heap.size w w'
set_option maxHeartbeats 1000000 in
theorem szEditS_any (a : Option Addr) (fs : List EM) (cap : Nat) (left : Int) (w : World) (hr : ERow w a fs) (hf : ESFit fs) (h0 : 0 ≤ left) (h1 : left ≤ 1048576) :
  Calls Tryz.prog 48 #[.slice a fs.length cap, .int .i64 left] w fun e w' => SzPostE left (fs.length + esum fs) w e w' := by
 have hl := hf.1
 by_cases c1 : left - fs.length < 0
 ·clear hr hf
  go_enter Tryz.func48, Tryz.ntmps48
  go_wp2_with fail
  go_ret
  exact ⟨-1, rfl, by omega, by omega, Below.refl _ _⟩
 ·have HR : Hid (ERow w a fs) := hr
  have HF : Hid (ESFit fs) := hf
  clear hr hf
  go_enter Tryz.func48, Tryz.ntmps48
  go_wp2_with fail
  go_loopw [1, 5] (fun v i wr => ∃ (k : Nat) (l : Int), v = .int .i64 l ∧ i = .int .i64 k ∧ k ≤ fs.length ∧ 0 ≤ l ∧ l + fs.length + esum (fs.take k) = left ∧ Below w.heap.size w wr) (fun _ i _ => fs.length - (intOf i).toNat)
  case atStart => exact ⟨0, left - fs.length, rfl, rfl, Nat.zero_le _, by omega, by simp [esum], Below.refl _ _⟩
  case round =>
   obtain ⟨k, l, rfl, rfl, hk, hl0, hsum, hb⟩ := hrel
   by_cases hlt : k < fs.length
   ·obtain ⟨b, off, rfl, hbl, hc⟩ := ERow.at (HR.out.stays hb) (by omega)
    obtain ⟨d0, d1, d2, d3, d4⟩ := hc k hlt
    have HS : Hid (l + fs.length + esum (fs.take k) = left) := hsum
    have hst := esum_take fs k hlt
    have HST : Hid (esum (fs.take (k + 1)) = esum (fs.take k) + (fs[k].path.size + fs[k].dest.size)) := hst
    have hfk := HF.out.2 fs[k] (List.getElem_mem hlt)
    obtain ⟨f, hfe⟩ : ∃ f, f = fs[k] := ⟨_, rfl⟩
    rw [← hfe] at d0 d1 d2 d3 d4 hfk
    have HFE : Hid (f = fs[k]) := hfe
    have HB : Hid (Below w.heap.size w wr) := hb
    have hl1 : l ≤ 1048576 := by omega
    have k0 : (0 : Int) ≤ (k : Int) := by omega
    have k1 : (k : Int) < (fs.length : Int) := by omega
    clear hc hsum hst hfe hb
    go_wp2_with fail
    refine (szEdit_any f l _ hl0 hl1 hfk).mono ?_
    rintro e w2 ⟨⟨r, rfl, hr1, hr2⟩, hb2⟩
    have HB2 : Hid (Below w.heap.size w w2) := HB.out.trans (hb2.mono HB.out.size)
    clear hb2
    by_cases hr : r < 0
    ·go_wp2_with fail
     go_ret
     exact ⟨-1, rfl, by omega, by omega, HB2.out⟩
    ·have hr3 := hr2 (by omega)
     have hr4 : r + ((f.path.size + f.dest.size : Nat) : Int) = l := by push_cast; omega
     have HR3 : Hid (r + ((f.path.size + f.dest.size : Nat) : Int) = l) := hr4
     clear hr4
     clear hr2 hr3
     go_wp2_with fail
     go_roundw
     case rel => exact ⟨k + 1, r, rfl, by go_num, by omega, by omega, by rw [HST.out, ← HFE.out]; have := HR3.out; have := HS.out; push_cast at *; omega, HB2.out⟩
     case measure => simp [intOf]; omega
   ·obtain rfl : k = fs.length := by omega
    rw [List.take_length] at hsum
    go_wp2_with fail
    go_ret
    exact ⟨l, rfl, by omega, by intro _; push_cast; omega, hb⟩
def ToPostE (fs : List EM) (w : World) (e : Ending) (w' : World) : Prop := ∃ g, e = .returned (.slice (some ⟨g, 0, none⟩) fs.length fs.length) ∧ w.heap.size ≤ g ∧ WCells w' g (ecs fs) ∧ Below w.heap.size w w'
theorem infoEditE : (Tryz.prog.info? 28).map (fun i => (i.zero, i.size, i.bytes)) = some (some (.agg #[.int .i64 0, .string ⟨#[]⟩, .string ⟨#[]⟩, .int .i64 0, .int .i64 0]), 5, 56) := by kernel_rfl
set_option maxHeartbeats 1000000 in
theorem toEditS_any (a : Option Addr) (fs : List EM) (cap : Nat) (w : World) (hr : ERow w a fs) (hf : ESFit fs) (hl : fs.length ≤ 1048576) :
  Calls Tryz.prog 49 #[.slice a fs.length cap] w fun e w' => ToPostE fs w e w' := by
 obtain ⟨i0, hi, hz0, hz1, hz2⟩ := info_parts infoEditE
 have HR : Hid (ERow w a fs) := hr
 have HF : Hid (ESFit fs) := hf
 clear hr hf
 go_enter Tryz.func49, Tryz.ntmps49
 go_wp2_with (at_make; refine wpList_make_full _ rfl _ _ 40 rfl w.heap.size 28 i0 _ 5 Tryz.underlying40 hi hz0 hz1 .i64 .i64 _ _ fs.length rfl rfl (by omega) (by omega) ?b2 ?b3 ?b4 ?_)
 case b2 => rw [hz2]; omega
 case b3 => unfold maxLen; omega
 case b4 => omega
 intro wm hownm hgrm
 have hbm : Below w.heap.size w wm := (Below.refl _ _).grown hgrm (Nat.le_refl _) (fun j hj => by simp at hj)
 have hrow : WCells wm w.heap.size (ecs (List.replicate fs.length zeroE)) := by
  have h := own_wcells hownm
  have e : (madeCells #[.int .i64 0, .string ⟨#[]⟩, .string ⟨#[]⟩, .int .i64 0, .int .i64 0] (fs.length * 5)).toList = ecs (List.replicate fs.length zeroE) := made_flat ecells_len (by decide) #[.int .i64 0, .string ⟨#[]⟩, .string ⟨#[]⟩, .int .i64 0, .int .i64 0] zeroE rfl _
  rw [e] at h; exact h
 clear hownm hgrm
 go_wp2_with fail
 go_loopw [4] (fun i wr => ∃ (k : Nat) (gs : List EM), i = .int .i64 k ∧ k ≤ fs.length ∧ gs.length = fs.length ∧ gs.take k = fs.take k ∧ WCells wr w.heap.size (ecs gs) ∧ Below w.heap.size w wr) (fun i _ => fs.length - (intOf i).toNat)
 case atStart => exact ⟨0, _, rfl, by omega, by simp, by simp, hrow, hbm⟩
 case round =>
  clear hrow hbm
  obtain ⟨k, gs, rfl, hk, hgl, hgt, hw, hb⟩ := hrel
  by_cases hlt : k < fs.length
  ·obtain ⟨b, off, rfl, hbl, hc⟩ := ERow.at HR.out (by omega)
   obtain ⟨d0, d1, d2, d3, d4⟩ := hc k hlt
   rw [← hb.cell (p := ⟨b, off + k * 5, none⟩) hbl] at d0
   rw [← hb.cell (p := ⟨b, off + k * 5 + 1, none⟩) hbl] at d1
   rw [← hb.cell (p := ⟨b, off + k * 5 + 2, none⟩) hbl] at d2
   rw [← hb.cell (p := ⟨b, off + k * 5 + 3, none⟩) hbl] at d3
   rw [← hb.cell (p := ⟨b, off + k * 5 + 4, none⟩) hbl] at d4
   obtain ⟨f, hfe⟩ : ∃ f, f = fs[k] := ⟨_, rfl⟩
   rw [← hfe] at d0 d1 d2 d3 d4
   have k0 : (0 : Int) ≤ (k : Int) := by omega
   have k1 : (k : Int) < (fs.length : Int) := by omega
   have HFE : Hid (f = fs[k]) := hfe
   have HG : Hid (gs.length = fs.length ∧ gs.take k = fs.take k) := ⟨hgl, hgt⟩
   clear hc hfe hgl hgt
   go_wp2_with fail
   refine (toEdit_any f _).mono ?_
   rintro e w2 ⟨rfl, hb2⟩
   have hw2 := hw.below hb2 hw.1
   have hb3 : Below w.heap.size w w2 := hb.trans (hb2.mono hb.size)
   clear hw hb hb2 d0 d1 d2 d3 d4
   have hgk : k < gs.length := by have := HG.out.1; omega
   obtain ⟨c0, z0⟩ := hw2.2 (k * 5) _ (flat_get ecells_len gs k hgk 0 (by omega))
   obtain ⟨c1, z1⟩ := hw2.2 (k * 5 + 1) _ (flat_get ecells_len gs k hgk 1 (by omega))
   obtain ⟨c2, z2⟩ := hw2.2 (k * 5 + 2) _ (flat_get ecells_len gs k hgk 2 (by omega))
   obtain ⟨c3, z3⟩ := hw2.2 (k * 5 + 3) _ (flat_get ecells_len gs k hgk 3 (by omega))
   obtain ⟨c4, z4⟩ := hw2.2 (k * 5 + 4) _ (flat_get ecells_len gs k hgk 4 (by omega))
   have HW : Hid (WCells w2 w.heap.size (ecs gs)) := hw2
   clear hw2
   have hset := HW.out.setElem ecells_len k hgk f
   have hbn := below_setW hb3 (Nat.le_refl _) (k * 5) (ecells f)
   have HS : Hid (WCells (setW w2 w.heap.size (k * 5) (ecells f)) w.heap.size (ecs (gs.set k f))) := hset
   have HBN : Hid (Below w.heap.size w (setW w2 w.heap.size (k * 5) (ecells f))) := hbn
   clear hset hbn
   go_wp2_with fail
   go_roundw
   case rel =>
    refine ⟨k + 1, gs.set k f, by go_num, by omega, by rw [List.length_set]; exact HG.out.1, ?_, HS.out, HBN.out⟩
    rw [List.take_succ_eq_append_getElem (by rw [List.length_set]; exact hgk), List.take_succ_eq_append_getElem hlt, List.take_set_of_le (Nat.le_refl _), HG.out.2, List.getElem_set_self, HFE.out]
   case measure => simp [intOf]; omega
  ·have e : gs = fs := by
    rw [List.take_of_length_le (by omega), List.take_of_length_le (by omega)] at hgt; exact hgt
   subst e
   go_wp2_with fail
   go_ret
   exact ⟨_, rfl, Nat.le_refl _, hw, hb⟩
set_option maxHeartbeats 1000000 in
theorem eqEditS_same (a b : Option Addr) (fs : List EM) (ca cb : Nat) (w : World) (ha : ERow w a fs) (hb : ERow w b fs) (hl : fs.length ≤ 1048576) :
  Calls Tryz.prog 50 #[.slice a fs.length ca, .slice b fs.length cb] w fun e w' => e = .returned (.bool true) ∧ Below w.heap.size w w' := by
 have HA : Hid (ERow w a fs) := ha
 have HB : Hid (ERow w b fs) := hb
 clear ha hb
 go_enter Tryz.func50, Tryz.ntmps50
 go_wp2_with fail
 go_loopw [5] (fun i wr => ∃ (k : Nat), i = .int .i64 k ∧ k ≤ fs.length ∧ Below w.heap.size w wr) (fun i _ => fs.length - (intOf i).toNat)
 case atStart => exact ⟨0, rfl, Nat.zero_le _, Below.refl _ _⟩
 case round =>
  obtain ⟨k, rfl, hk, hbl⟩ := hrel
  by_cases hlt : k < fs.length
  ·obtain ⟨b1, o1, rfl, l1, hc1⟩ := ERow.at (HA.out.stays hbl) (by omega)
   obtain ⟨b2, o2, rfl, l2, hc2⟩ := ERow.at (HB.out.stays hbl) (by omega)
   obtain ⟨d0, d1, d2, d3, d4⟩ := hc1 k hlt
   obtain ⟨e0, e1, e2, e3, e4⟩ := hc2 k hlt
   obtain ⟨f, hfe⟩ : ∃ f, f = fs[k] := ⟨_, rfl⟩
   rw [← hfe] at d0 d1 d2 d3 d4 e0 e1 e2 e3 e4
   have HS : Hid (Below w.heap.size w wr) := hbl
   have k0 : (0 : Int) ≤ (k : Int) := by omega
   have k1 : (k : Int) < (fs.length : Int) := by omega
   clear hc1 hc2 hfe hbl
   go_wp2_with fail
   go_region_held3 (fun w' => w'.cell? ⟨b1, o1 + k * 5, none⟩ = some (.int .i64 f.kind) ∧ w'.cell? ⟨b1, o1 + k * 5 + 1, none⟩ = some (.string f.path) ∧ w'.cell? ⟨b1, o1 + k * 5 + 2, none⟩ = some (.string f.dest) ∧ w'.cell? ⟨b1, o1 + k * 5 + 3, none⟩ = some (.int .i64 f.num) ∧ w'.cell? ⟨b1, o1 + k * 5 + 4, none⟩ = some (.int .i64 f.who) ∧ w'.cell? ⟨b2, o2 + k * 5, none⟩ = some (.int .i64 f.kind) ∧ w'.cell? ⟨b2, o2 + k * 5 + 1, none⟩ = some (.string f.path) ∧ w'.cell? ⟨b2, o2 + k * 5 + 2, none⟩ = some (.string f.dest) ∧ w'.cell? ⟨b2, o2 + k * 5 + 3, none⟩ = some (.int .i64 f.num) ∧ w'.cell? ⟨b2, o2 + k * 5 + 4, none⟩ = some (.int .i64 f.who))
    (first | go_keep | (refine ⟨?_, ?_, ?_, ?_, ?_, ?_, ?_, ?_, ?_, ?_⟩ <;> first | (rw [hb2.cell (by exact l1)]; simp [*]) | (rw [hb2.cell (by exact l2)]; simp [*])))
    ((go_at_call 99; refine (eqEdit_same f _).mono ?_; rintro e w2 ⟨rfl, hb2⟩))
   all_goals go_wp2_with fail
   all_goals
    have hb3 : Below w.heap.size w w2 := HS.out.trans ((Below.drew (Below.refl _ _)).trans (hb2.mono HS.out.size))
    exact ⟨⟨k + 1, by go_num, by omega, hb3⟩, by simp [intOf]; omega⟩
  ·have e : k = fs.length := by omega
   subst e
   go_wp2_with fail
   go_ret
   exact ⟨rfl, hbl⟩
theorem ecs_five (ys : List EM) (j : Nat) (hj : j < ys.length) (f : EM) : (((((ecs ys).set (j * 5) (.int .i64 f.kind)).set (j * 5 + 1) (.string f.path)).set (j * 5 + 2) (.string f.dest)).set (j * 5 + 3) (.int .i64 f.num)).set (j * 5 + 4) (.int .i64 f.who) = ecs (ys.set j f) :=
 flat_setL ecells_len ys j hj f
def MarkEds (g k n : Nat) (w : World) (e : Ending) (w' : World) : Prop := e = .returned (.int .i64 (k + 5 * n : Nat)) ∧ w.grownBy w' (some g)
set_option maxHeartbeats 1000000 in
theorem markEditS_any (g : Nat) (xs : List EM) (k ca : Nat) (w : World) (ha : WCells w g (ecs xs)) (hk : 0 < k) (hn : k + 5 * xs.length ≤ 1000000000) (hca : xs.length ≤ ca) :
  Calls Tryz.prog 51 #[.slice (some ⟨g, 0, none⟩) xs.length ca, .int .i64 k] w fun e w' => MarkEds g k xs.length w e w' := by
 obtain ⟨n, hnx⟩ : ∃ n, n = xs.length := ⟨_, rfl⟩
 have HN : Hid (n = xs.length) := hnx
 rw [← hnx]
 rw [← hnx] at hn hca
 clear hnx
 have HA : Shut (WCells w g (ecs xs)) := ⟨ha⟩
 clear ha
 go_enter Tryz.func51, Tryz.ntmps51
 go_wp2_with fail
 go_loopw [1, 5] (fun c i wr => ∃ (j : Nat) (ys : List EM), i = .int .i64 j ∧ c = .int .i64 (k + 5 * j : Nat) ∧ j ≤ n ∧ ys.length = n ∧ Shut (WCells wr g (ecs ys)) ∧ w.grownBy wr (some g)) (fun _ i _ => n - (intOf i).toNat)
 case atStart => exact ⟨0, xs, rfl, rfl, Nat.zero_le _, HN.out.symm, HA, grownBy_below (Below.refl _ _)⟩
 case round =>
  obtain ⟨j, ys, rfl, rfl, hj, hyl, hw, hgr⟩ := hrel
  have HL : Hid (ys.length = n) := hyl
  have HGR : Hid (w.grownBy wr (some g)) := hgr
  by_cases hlt : j < n
  ·have j0 : (0 : Int) ≤ (j : Int) := by omega
   have j1 : (j : Int) < (n : Int) := by omega
   have hly : (ecs ys).length = n * 5 := by rw [ecs_len, hyl]
   have Q1 : Shut (∀ W : World, Calls Tryz.prog 100 #[.int .i64 ((k : Int) + 5 * (j : Int) + 1)] W fun e w' => e = .returned (.string (mt (k + 5 * j + 1))) ∧ Below W.heap.size W w') := ⟨fun W => by
    have q := markText_any (k + 5 * j + 1) W (by omega) (by omega)
    rwa [show ((k + 5 * j + 1 : Nat) : Int) = (k : Int) + 5 * (j : Int) + 1 by push_cast; omega] at q⟩
   have Q2 : Shut (∀ W : World, Calls Tryz.prog 100 #[.int .i64 ((k : Int) + 5 * (j : Int) + 1 + 1)] W fun e w' => e = .returned (.string (mt (k + 5 * j + 2))) ∧ Below W.heap.size W w') := ⟨fun W => by
    have q := markText_any (k + 5 * j + 2) W (by omega) (by omega)
    rwa [show ((k + 5 * j + 2 : Nat) : Int) = (k : Int) + 5 * (j : Int) + 1 + 1 by push_cast; omega] at q⟩
   have hw0 := hw.out
   obtain ⟨c0, z0⟩ := hw0.2 (j * 5) _ (List.getElem?_eq_getElem (by first | omega | (simp only [List.length_set]; omega)))
   have HS0 : Shut (WCells (wr.setCell ⟨g, j * 5, none⟩ (.int .i64 ((k : Int) + 5 * (j : Int)))) g ((ecs ys).set (j * 5) (.int .i64 ((k : Int) + 5 * (j : Int))))) := ⟨hw0.set (j * 5) (.int .i64 ((k : Int) + 5 * (j : Int))) (by first | omega | (simp only [List.length_set]; omega))⟩
   have HG0 : Hid (w.grownBy (wr.setCell ⟨g, j * 5, none⟩ (.int .i64 ((k : Int) + 5 * (j : Int)))) (some g)) := grownBy_two hgr (grownBy_setCell wr g _ _)
   go_wp2_with fail
   refine (Q1.out _).mono ?_
   rintro e w1 ⟨rfl, hb1⟩
   have hw1 := HS0.out.grow hb1
   obtain ⟨c1, z1⟩ := hw1.2 (j * 5 + 1) _ (List.getElem?_eq_getElem (by first | omega | (simp only [List.length_set]; omega)))
   have HS1 : Shut (WCells (w1.setCell ⟨g, j * 5 + 1, none⟩ (.string (mt (k + 5 * j + 1)))) g (((ecs ys).set (j * 5) (.int .i64 ((k : Int) + 5 * (j : Int)))).set (j * 5 + 1) (.string (mt (k + 5 * j + 1))))) := ⟨hw1.set (j * 5 + 1) (.string (mt (k + 5 * j + 1))) (by first | omega | (simp only [List.length_set]; omega))⟩
   have HG1 : Hid (w.grownBy (w1.setCell ⟨g, j * 5 + 1, none⟩ (.string (mt (k + 5 * j + 1)))) (some g)) := grownBy_two HG0.out (grownBy_two (grownBy_below hb1) (grownBy_setCell w1 g _ _))
   go_wp2_with fail
   refine (Q2.out _).mono ?_
   rintro e w2 ⟨rfl, hb2⟩
   have hw2 := HS1.out.grow hb2
   obtain ⟨c2, z2⟩ := hw2.2 (j * 5 + 2) _ (List.getElem?_eq_getElem (by first | omega | (simp only [List.length_set]; omega)))
   have HS2 : Shut (WCells (w2.setCell ⟨g, j * 5 + 2, none⟩ (.string (mt (k + 5 * j + 2)))) g ((((ecs ys).set (j * 5) (.int .i64 ((k : Int) + 5 * (j : Int)))).set (j * 5 + 1) (.string (mt (k + 5 * j + 1)))).set (j * 5 + 2) (.string (mt (k + 5 * j + 2))))) := ⟨hw2.set (j * 5 + 2) (.string (mt (k + 5 * j + 2))) (by first | omega | (simp only [List.length_set]; omega))⟩
   have HG2 : Hid (w.grownBy (w2.setCell ⟨g, j * 5 + 2, none⟩ (.string (mt (k + 5 * j + 2)))) (some g)) := grownBy_two HG1.out (grownBy_two (grownBy_below hb2) (grownBy_setCell w2 g _ _))
   have hw3 := HS2.out
   obtain ⟨c3, z3⟩ := hw3.2 (j * 5 + 3) _ (List.getElem?_eq_getElem (by first | omega | (simp only [List.length_set]; omega)))
   have HS3 : Shut (WCells ((w2.setCell ⟨g, j * 5 + 2, none⟩ (.string (mt (k + 5 * j + 2)))).setCell ⟨g, j * 5 + 3, none⟩ (.int .i64 ((k : Int) + 5 * (j : Int) + 1 + 1 + 1))) g (((((ecs ys).set (j * 5) (.int .i64 ((k : Int) + 5 * (j : Int)))).set (j * 5 + 1) (.string (mt (k + 5 * j + 1)))).set (j * 5 + 2) (.string (mt (k + 5 * j + 2)))).set (j * 5 + 3) (.int .i64 ((k : Int) + 5 * (j : Int) + 1 + 1 + 1)))) := ⟨hw3.set (j * 5 + 3) (.int .i64 ((k : Int) + 5 * (j : Int) + 1 + 1 + 1)) (by first | omega | (simp only [List.length_set]; omega))⟩
   have HG3 : Hid (w.grownBy ((w2.setCell ⟨g, j * 5 + 2, none⟩ (.string (mt (k + 5 * j + 2)))).setCell ⟨g, j * 5 + 3, none⟩ (.int .i64 ((k : Int) + 5 * (j : Int) + 1 + 1 + 1))) (some g)) := grownBy_two HG2.out (grownBy_setCell _ g _ _)
   have hw4 := HS3.out
   obtain ⟨c4, z4⟩ := hw4.2 (j * 5 + 4) _ (List.getElem?_eq_getElem (by first | omega | (simp only [List.length_set]; omega)))
   have HS4 : Shut (WCells (((w2.setCell ⟨g, j * 5 + 2, none⟩ (.string (mt (k + 5 * j + 2)))).setCell ⟨g, j * 5 + 3, none⟩ (.int .i64 ((k : Int) + 5 * (j : Int) + 1 + 1 + 1))).setCell ⟨g, j * 5 + 4, none⟩ (.int .i64 ((k : Int) + 5 * (j : Int) + 1 + 1 + 1 + 1))) g ((((((ecs ys).set (j * 5) (.int .i64 ((k : Int) + 5 * (j : Int)))).set (j * 5 + 1) (.string (mt (k + 5 * j + 1)))).set (j * 5 + 2) (.string (mt (k + 5 * j + 2)))).set (j * 5 + 3) (.int .i64 ((k : Int) + 5 * (j : Int) + 1 + 1 + 1))).set (j * 5 + 4) (.int .i64 ((k : Int) + 5 * (j : Int) + 1 + 1 + 1 + 1)))) := ⟨hw4.set (j * 5 + 4) (.int .i64 ((k : Int) + 5 * (j : Int) + 1 + 1 + 1 + 1)) (by first | omega | (simp only [List.length_set]; omega))⟩
   have HG4 : Hid (w.grownBy (((w2.setCell ⟨g, j * 5 + 2, none⟩ (.string (mt (k + 5 * j + 2)))).setCell ⟨g, j * 5 + 3, none⟩ (.int .i64 ((k : Int) + 5 * (j : Int) + 1 + 1 + 1))).setCell ⟨g, j * 5 + 4, none⟩ (.int .i64 ((k : Int) + 5 * (j : Int) + 1 + 1 + 1 + 1))) (some g)) := grownBy_two HG3.out (grownBy_setCell _ g _ _)
   have HF : Shut (WCells (((w2.setCell ⟨g, j * 5 + 2, none⟩ (.string (mt (k + 5 * j + 2)))).setCell ⟨g, j * 5 + 3, none⟩ (.int .i64 ((k : Int) + 5 * (j : Int) + 1 + 1 + 1))).setCell ⟨g, j * 5 + 4, none⟩ (.int .i64 ((k : Int) + 5 * (j : Int) + 1 + 1 + 1 + 1))) g (ecs (ys.set j ⟨(k : Int) + 5 * (j : Int), mt (k + 5 * j + 1), mt (k + 5 * j + 2), (k : Int) + 5 * (j : Int) + 1 + 1 + 1, (k : Int) + 5 * (j : Int) + 1 + 1 + 1 + 1⟩))) := ⟨by
    have hfin := ecs_five ys j (by have := HL.out; omega) ⟨(k : Int) + 5 * (j : Int), mt (k + 5 * j + 1), mt (k + 5 * j + 2), (k : Int) + 5 * (j : Int) + 1 + 1 + 1, (k : Int) + 5 * (j : Int) + 1 + 1 + 1 + 1⟩
    have q := HS4.out
    dsimp only at hfin
    rw [hfin] at q
    exact q⟩
   clear HS0 HS1 HS2 HS3 HS4 hw0 hw1 hw2 hw3 hw4 hb1 hb2 HG0 HG1 HG2 HG3
   go_wp2_with fail
   go_roundw
   case rel => exact ⟨j + 1, _, by go_num, congrArg (Value.int .i64) (by omega), by omega, by rw [List.length_set]; exact HL.out, HF, HG4.out⟩
   case measure => simp [intOf]; omega
  ·have e : j = n := by omega
   subst e
   go_wp2_with fail
   go_ret
   exact ⟨rfl, hgr⟩
end Go.Proofs.YtakhagkhngmpaaaGreat
