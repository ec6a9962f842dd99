/- Texts of ours, laid one behind the other: LawActs, CutA, ApRow, CutB, AcP, KeepC, DiskO, ActO. -/
import Derived.Test.YtplcdcfhfaghiaaPa10
import Derived.Deep.Upon
import Derived.Deep.Slices
import Derived.Deep.Strs
import Derived.ChangeArms
import Derived.ChangeSame
import Derived.WideShapes
import Derived.OpenShut
/- LawActs: The law on DoActs: its walk. -/
namespace Go.Proofs.Ytplcdcfhfaghiaa
set_option maxRecDepth 100000
open Go.RowKit
attribute [local go_sem ↓] Go.wp_at_zero Go.wp_at_succ

theorem asum_mem {xs : List AM} {x : AM} (h : x ∈ xs) : x.name.size + x.text.size + x.dst.size ≤ asum xs := by
  induction xs with
  | nil => simp at h
  | cons g xs ih =>
    simp only [asum]
    rcases List.mem_cons.1 h with rfl | h
    · omega
    · have := ih h; omega
theorem agood_of {xs : List AM} (h : AFit xs) (hs : asum xs ≤ 1048576) : AGood xs := fun x hx => by
  have h1 := asum_mem hx
  have h2 := h.2 x hx
  exact ⟨h2.1, by omega, h2.2.2.1⟩
theorem doAs_or (fs : List FM) (xs : List AM) : (doAs fs xs).1 = fs ∨ DOk (doAs fs xs).1 := by
  induction xs generalizing fs with
  | nil => exact .inl rfl
  | cons x xs ih =>
    cases h : doA fs x with
    | none => left; simp [doAs, h]
    | some o =>
      right
      simp only [doAs, h]
      rcases ih o with e | e
      · rw [e]; exact doA_ok h
      · exact e
end Go.Proofs.Ytplcdcfhfaghiaa
/- CutA: Acts that are cut by a loss of power: the model's walk and the program's own. -/
namespace Go.Proofs.Ytplcdcfhfaghiaa
set_option maxRecDepth 100000
open Go.RowKit
attribute [local go_sem ↓] Go.wp_at_zero Go.wp_at_succ

/-- What CutActs answers. -/
noncomputable def cutR (fs : List FM) (xs : List AM) (k : Int) (left : List Int) : List FM × Bool :=
  if 0 ≤ k ∧ k ≤ (xs.length : Int) then (if ((doAs fs (xs.take k.toNat)).2 : Int) < k then ([], false) else (lostD (doAs fs (xs.take k.toNat)).1 left, dOkB (doAs fs (xs.take k.toNat)).1)) else ([], false)
def SB (w0 w : World) (q : Nat) (v : Value) (L : List (Nat × List Value)) (R : List (Option Addr × List Value × Nat × Nat)) : Prop := w.cell? ⟨q, 0, none⟩ = some v ∧ Shut (Mem w0 w L R)
theorem SB.below {w0 w w' : World} {q : Nat} {v : Value} {L : List (Nat × List Value)} {R : List (Option Addr × List Value × Nat × Nat)} (h : SB w0 w q v L R) (hb : Below w.heap.size w w') : SB w0 w' q v L R := ⟨(hb.cell (p := ⟨q, 0, none⟩) (cell_lt h.1)).trans h.1, ⟨h.2.out.below hb⟩⟩
theorem SB.alloc {w0 w : World} {q : Nat} {v : Value} {L : List (Nat × List Value)} {R : List (Option Addr × List Value × Nat × Nat)} (h : SB w0 w q v L R) (o : Obj) : SB w0 (w.alloc o) q v L R := h.below ((Below.refl _ _).alloc (Nat.le_refl _) o)
theorem SB.drew {w0 w : World} {q : Nat} {v : Value} {L : List (Nat × List Value)} {R : List (Option Addr × List Value × Nat × Nat)} (h : SB w0 w q v L R) : SB w0 w.drew q v L R := ⟨h.1, ⟨h.2.out.drew⟩⟩
theorem SB.set {w0 w : World} {q : Nat} {v : Value} {L : List (Nat × List Value)} {R : List (Option Addr × List Value × Nat × Nat)} {a : Addr} (h : SB w0 w q v L R) (u : Value) (h0 : w0.heap.size ≤ a.block) (h1 : a.block ≠ q) (hL : ∀ p ∈ L, p.1 ≠ a.block) (hR : ∀ r ∈ R, a.block < r.2.2.1 ∨ r.2.2.2 ≤ a.block) : SB w0 (w.setCell a u) q v L R :=
  ⟨(World.cell?_of_block (Below.heap_setCell w a u q (fun e => h1 e.symm))).trans h.1, ⟨h.2.out.setNew a u h0 hL hR⟩⟩
theorem SB.low {w0 w : World} {q : Nat} {v : Value} {L : List (Nat × List Value)} {R : List (Option Addr × List Value × Nat × Nat)} (h : SB w0 w q v L R) : Below w0.heap.size w0 w := h.2.out.low
theorem SB.wc {w0 w : World} {q g : Nat} {v : Value} {L : List (Nat × List Value)} {R : List (Option Addr × List Value × Nat × Nat)} {X : List Value} (h : SB w0 w q v L R) (hg : WCells w0 g X) : WCells w g X := hg.below h.low hg.1
theorem AR.take {w0 w : World} {c : Option Addr} {xs : List AM} {k : Nat} (h : ARow w0 c xs) (hb : Below w0.heap.size w0 w) (hk : k ≤ xs.length) : ARow w c (xs.take k) := by
  have h' := h.stays hb
  intro hp
  rw [acs_len] at hp
  obtain ⟨b, off, e, hl, hc⟩ := h' (by rw [acs_len]; simp at hp; omega)
  refine ⟨b, off, e, hl, fun i v hv => hc i v ?_⟩
  have : acs xs = acs (xs.take k) ++ acs (xs.drop k) := by unfold acs; rw [← List.flatMap_append, List.take_append_drop]
  rw [this, List.getElem?_append_left (List.getElem?_eq_some_iff.1 hv).1]
  exact hv
theorem specDoActsR {fs : List FM} {ys : List AM} {q : List FM × Nat} (hq : doAs fs ys = q) (g : Nat) (c : Option Addr) (capx : Nat) (w : World) {cap n : Nat} (hg : WCells w g (fcs fs)) (hf : FFit fs) (hl : fs.length ≤ 1048576) (hx : ARow w c ys) (hxg : AGood ys) (hxl : ys.length ≤ 1048576) (hn : ys.length = n) :
    Calls Try.prog 7 #[.agg #[.slice (some ⟨g, 0, none⟩) fs.length cap], .slice c n capx] w fun e w' => DiskPost q.1 (.int .i64 (q.2 : Nat)) w e w' := by
  subst hq hn; exact specDoActs g c fs ys cap capx w hg hf hl hx hxg hxl
theorem implDoActsR {fs : List FM} {ys : List AM} {q : List FM × Nat} (hq : doAs fs ys = q) (a c : Option Addr) (capx : Nat) (w : World) {cap n : Nat} (hr : FRow w a fs) (hf : FFit fs) (hl : fs.length ≤ 1048576) (hfs : fsum fs ≤ 1048576) (hx : ARow w c ys) (hxg : AGood ys) (hxl : ys.length ≤ 1048576) (hn : ys.length = n) :
    Calls Try.prog 6 #[.agg #[.slice a fs.length cap], .slice c n capx] w fun e w' => DiskPost q.1 (.int .i64 (q.2 : Nat)) w e w' := by
  subst hq hn; exact implDoActs a c fs ys cap capx w hr hf hl hfs hx hxg hxl
set_option maxHeartbeats 2000000 in
set_option maxRecDepth 100000 in
theorem specCutActs (g : Nat) (c d : Option Addr) (fs : List FM) (xs : List AM) (k : Int) (left : List Int) (cap capl : Nat) (w : World) (hg : WCells w g (fcs fs)) (hf : FFit fs) (hl : fs.length ≤ 1048576) (_hfs : fsum fs ≤ 1048576) (hx : ARow w c xs) (hxg : AGood xs) (hxl : xs.length ≤ 1048576) (hd : IRowD w d left) (hll : left.length ≤ 1048576) :
    Calls Try.prog 12 #[.agg #[.slice (some ⟨g, 0, none⟩) fs.length cap], .slice c xs.length xs.length, .int .i64 k, .slice d left.length capl] w fun e w' => DiskPost (cutR fs xs k left).1 (.bool (cutR fs xs k left).2) w e w' := by
  have HF : Hid (FFit fs) := hf
  have HG : Hid (WCells w g (fcs fs)) := hg
  have HXR : Hid (ARow w c xs) := hx
  have HXT : Hid (AGood (xs.take k.toNat)) := fun x hx => hxg x (List.mem_of_mem_take hx)
  have HL : Hid (IRowD w d left) := hd
  have m0 : Mem w w [] [] := ⟨by simp, by simp, Below.refl _ _⟩
  have m1 := (m0.box #[.slice (some ⟨g, 0, none⟩) fs.length cap] 26).box #[.slice none 0 0] 26
  simp only [World.size_alloc] at m1
  have M1 : Shut (Mem w ((w.alloc (.cells #[.slice (some ⟨g, 0, none⟩) fs.length cap] 26)).alloc (.cells #[.slice none 0 0] 26)) [(w.heap.size + 1, [.slice none 0 0]), (w.heap.size, [.slice (some ⟨g, 0, none⟩) fs.length cap])] []) := ⟨m1⟩
  generalize hrr : cutR fs xs k left = rr
  have HRR : Hid (cutR fs xs k left = rr) := hrr
  clear hf hg hx hxg hd m0 m1 hrr
  by_cases hin : 0 ≤ k ∧ k ≤ (xs.length : Int)
  · generalize hq : doAs fs (xs.take k.toNat) = q
    have HQ : Hid (doAs fs (xs.take k.toNat) = q) := hq
    have hqf := fit_cur HF.out hl (doAs_or fs (xs.take k.toNat))
    rw [hq] at hqf
    have HQF : Hid (FFit q.1) := hqf.1
    have hql := hqf.2
    have HRA : Hid (rr = if ((q.2 : Nat) : Int) < k then ([], false) else (lostD q.1 left, dOkB q.1)) := by rw [← HRR.out, cutR, if_pos hin, hq]; exact (rfl : _ = _)
    obtain ⟨h0, h1⟩ := hin
    have hwl : k.toNat ≤ xs.length := by omega
    have htl : (xs.take k.toNat).length = k.toNat := by simp; omega
    clear hq hqf HRR
    have hb : decide ((0 : Int) ≤ k ∧ k ≤ (xs.length : Int)) = true := decide_eq_true ⟨h0, h1⟩
    go_enter Try.func12, Try.ntmps12
    go_wp2_with fail
    refine (l01In_is k 0 (xs.length : Int) _ true hb).mono ?_
    intro e w1' hw1
    obtain ⟨rfl, hww⟩ := hw1
    rw [hww]
    clear hww w1' hb
    go_upto_region 3 with fail
    generalize hW : (w.alloc (.cells #[.slice (some ⟨g, 0, none⟩) fs.length cap] 26)).alloc (.cells #[.slice none 0 0] 26) = w1 at *
    clear hW
    have s1 : w.heap.size + 1 < w1.heap.size := M1.out.lt0
    have hS0 : Shut (SB w w1 w.heap.size (.slice (some ⟨g, 0, none⟩) fs.length cap) [(w.heap.size + 1, [.slice none 0 0]), (w.heap.size, [.slice (some ⟨g, 0, none⟩) fs.length cap])] []) := ⟨⟨M1.out.cell1, M1⟩⟩
    clear M1
    go_cut [10, 11] from 12 to 34 (fun u10 u11 wx => ∃ (nb lo hi vc : Nat) (va : Option Addr), u10 = .pointer (some ⟨nb, 0, none⟩) ∧ u11 = .int .i64 (q.2 : Nat) ∧ q.1.length ≤ vc ∧ (w1.heap.size ≤ lo ∧ w1.heap.size ≤ nb ∧ nb < wx.heap.size ∧ hi ≤ wx.heap.size) ∧ Shut (Mem w wx ((nb, [.slice va q.1.length vc]) :: [(w.heap.size + 1, [.slice none 0 0]), (w.heap.size, [.slice (some ⟨g, 0, none⟩) fs.length cap])]) ((va, fcs q.1, lo, hi) :: [])))
    case first =>
      go_region_held3 (fun w' => w'.cell? ⟨w.heap.size, 0, none⟩ = some (.slice (some ⟨g, 0, none⟩) fs.length cap) ∧ Shut (Mem w w' [(w.heap.size + 1, [.slice none 0 0]), (w.heap.size, [.slice (some ⟨g, 0, none⟩) fs.length cap])] []))
        (first | assumption | (exact SB.alloc hSC.out _) | (exact SB.below (by assumption) hbC) | (exact SB.alloc (by assumption) _) | (exact hS0.out.drew) | (exact SB.set hSC.out _ (by first | omega | (simp; done) | (simp; omega) | (unfold World.setCell; simp; done) | (unfold World.setCell; simp; omega)) (by first | omega | (simp; done) | (simp; omega) | (unfold World.setCell; simp; done) | (unfold World.setCell; simp; omega)) (by first | omega | (simp; done) | (simp; omega) | (unfold World.setCell; simp; done) | (unfold World.setCell; simp; omega)) (by simp)))
        (first
          | (go_at_call 7; refine (specDoActsR (q := q) HQ.out g c xs.length _ (SB.wc (by assumption) HG.out) HF.out hl (AR.take HXR.out (SB.low (by assumption)) hwl) HXT.out (by simp; omega) htl).mono ?_; rintro e wC ⟨va, vc, rfl, hfC, hcC, hbC⟩; have hSC : Shut (SB w wC w.heap.size (.slice (some ⟨g, 0, none⟩) fs.length cap) [(w.heap.size + 1, [.slice none 0 0]), (w.heap.size, [.slice (some ⟨g, 0, none⟩) fs.length cap])] []) := ⟨SB.below (by assumption) hbC⟩; have hsC := hbC.size; (try simp at hsC); (try (have hZ : Shut (WCells wC w1.heap.size [.slice none 0 0]) := ⟨WCells.grow (w := w1.drew.alloc (.cells #[.slice none 0 0] 26)) (wcells_new w1.drew #[.slice none 0 0] 26) hbC⟩; obtain ⟨z0, z1⟩ := hZ.out.2 0 _ rfl))))
      all_goals
        go_wp2_with fail
        go_meet
      all_goals
        first
          | exact ⟨wC.heap.size, _, wC.heap.size, vc, va, rfl, rfl, hcC, ⟨(by first | omega | (simp; done) | (simp; omega) | (unfold World.setCell; simp; done) | (unfold World.setCell; simp; omega)), (by first | omega | (simp; done) | (simp; omega) | (unfold World.setCell; simp; done) | (unfold World.setCell; simp; omega)), (by first | omega | (simp; done) | (simp; omega) | (unfold World.setCell; simp; done) | (unfold World.setCell; simp; omega)), (by first | omega | (simp; done) | (simp; omega) | (unfold World.setCell; simp; done) | (unfold World.setCell; simp; omega))⟩, ⟨(hSC.out.2.out.row hfC).box #[.slice va q.1.length vc] 26⟩⟩
          | exact ⟨w1.heap.size, _, wC.heap.size, vc, va, rfl, rfl, hcC, ⟨(by first | omega | (simp; done) | (simp; omega) | (unfold World.setCell; simp; done) | (unfold World.setCell; simp; omega)), (by first | omega | (simp; done) | (simp; omega) | (unfold World.setCell; simp; done) | (unfold World.setCell; simp; omega)), (by have := hZ.out.1; first | omega | (simp; omega) | (unfold World.setCell; simp; omega)), (by first | omega | (simp; done) | (simp; omega) | (unfold World.setCell; simp; done) | (unfold World.setCell; simp; omega))⟩, ⟨(hSC.out.2.out.row hfC).setBox hZ.out _ (by first | omega | (simp; done) | (simp; omega) | (unfold World.setCell; simp; done) | (unfold World.setCell; simp; omega)) (by first | omega | (simp; done) | (simp; omega) | (unfold World.setCell; simp; done) | (unfold World.setCell; simp; omega)) (by first | omega | (simp; done) | (simp; omega) | (unfold World.setCell; simp; done) | (unfold World.setCell; simp; omega))⟩⟩
    case rest =>
      obtain ⟨nb, lo, hi, vc, va, rfl, rfl, hvc, ⟨o1, o2, o3, o4⟩, M4⟩ := hcut
      have x4 := M4.out.cell0
      obtain ⟨y4, y5⟩ := (M4.out.cells _ (List.mem_cons_of_mem _ (List.mem_cons_self ..))).2 0 _ rfl
      have s4 := M4.out.lt1
      clear hS0
      by_cases hlt : ((q.2 : Nat) : Int) < k
      · have HE : Hid (rr = ([], false)) := HRA.out.trans (if_pos hlt)
        go_wp2_with fail
        refine bodyPost_ret (v := .tuple #[.agg #[.slice none 0 0], .bool false]) (by simp [results, Try.results12, go_sem, y4]) rfl ?_
        rw [HE.out]
        exact ⟨none, 0, rfl, .inl ⟨rfl, rfl⟩, Nat.le_refl _, M4.out.low.setCell (by simp) _⟩
      · have HE : Hid (rr = (lostD q.1 left, dOkB q.1)) := HRA.out.trans (if_neg hlt)
        go_wp2_with fail
        refine (specLoseDisk va d q.1 left vc capl _ M4.out.at0.crow HQF.out hql (HL.out.stays M4.out.low) hll).mono ?_
        intro e w7 hp7
        obtain ⟨v7, c7, rfl, hf7, hc7, hb7⟩ := hp7.made
        generalize lostD q.1 left = os at *
        generalize dOkB q.1 = D at *
        have M7 := M4.out.below hb7
        obtain ⟨z0, z1⟩ := (M7.cells _ (List.mem_cons_of_mem _ (List.mem_cons_self ..))).2 0 _ rfl
        have HB7 : Hid (Below w.heap.size w w7) := M7.low
        have HF7 : Shut (FRw w7 v7 (fcs os) wc.heap.size w7.heap.size) := ⟨hf7⟩
        have HW7 : Hid (w.heap.size ≤ wc.heap.size) := M4.out.low.size
        clear hb7 M7 M4 hf7 x4 y4 y5
        go_wp2_with fail
        refine bodyPost_ret (v := .tuple #[.agg #[.slice v7 os.length c7], .bool D]) (by simp [results, Try.results12, go_sem, z0]) rfl ?_
        rw [HE.out]
        refine ⟨v7, c7, rfl, ?_, hc7, HB7.out.setCell (by simp) _⟩
        rcases HF7.out with h | ⟨g', e1, e2, e3, e4⟩
        · exact .inl h
        · exact .inr ⟨g', e1, by have := HW7.out; omega, by simp [World.setCell]; omega, e4.other _ _ (by simp; omega)⟩
  · have HE : Hid (rr = ([], false)) := HRR.out.symm.trans (by rw [cutR, if_neg hin])
    have hb : decide ((0 : Int) ≤ k ∧ k ≤ (xs.length : Int)) = false := decide_eq_false hin
    clear hin
    go_enter Try.func12, Try.ntmps12
    go_wp2_with fail
    refine (l01In_is k 0 (xs.length : Int) _ false hb).mono ?_
    intro e w1' hw1
    obtain ⟨rfl, hww⟩ := hw1
    rw [hww]
    clear hww w1' hb
    go_wp2_with fail
    refine bodyPost_ret (v := .tuple #[.agg #[.slice none 0 0], .bool false]) (by simp [results, Try.results12, go_sem]) rfl ?_
    rw [HE.out]
    exact ⟨none, 0, rfl, .inl ⟨rfl, rfl⟩, Nat.le_refl _, M1.out.low⟩
set_option maxHeartbeats 2000000 in
set_option maxRecDepth 100000 in
theorem implCutActs (g : Nat) (c d : Option Addr) (fs : List FM) (xs : List AM) (k : Int) (left : List Int) (cap capl : Nat) (w : World) (hg : WCells w g (fcs fs)) (hf : FFit fs) (hl : fs.length ≤ 1048576) (hfs : fsum fs ≤ 1048576) (hx : ARow w c xs) (hxg : AGood xs) (hxl : xs.length ≤ 1048576) (hd : IRowD w d left) (hll : left.length ≤ 1048576) :
    Calls Try.prog 11 #[.agg #[.slice (some ⟨g, 0, none⟩) fs.length cap], .slice c xs.length xs.length, .int .i64 k, .slice d left.length capl] w fun e w' => DiskPost (cutR fs xs k left).1 (.bool (cutR fs xs k left).2) w e w' := by
  have HF : Hid (FFit fs) := hf
  have HG : Hid (WCells w g (fcs fs)) := hg
  have HXR : Hid (ARow w c xs) := hx
  have HXT : Hid (AGood (xs.take k.toNat)) := fun x hx => hxg x (List.mem_of_mem_take hx)
  have HL : Hid (IRowD w d left) := hd
  have m0 : Mem w w [] [] := ⟨by simp, by simp, Below.refl _ _⟩
  have m1 := (m0.box #[.slice (some ⟨g, 0, none⟩) fs.length cap] 26).box #[.slice none 0 0] 26
  simp only [World.size_alloc] at m1
  have M1 : Shut (Mem w ((w.alloc (.cells #[.slice (some ⟨g, 0, none⟩) fs.length cap] 26)).alloc (.cells #[.slice none 0 0] 26)) [(w.heap.size + 1, [.slice none 0 0]), (w.heap.size, [.slice (some ⟨g, 0, none⟩) fs.length cap])] []) := ⟨m1⟩
  generalize hrr : cutR fs xs k left = rr
  have HRR : Hid (cutR fs xs k left = rr) := hrr
  clear hf hg hx hxg hd m0 m1 hrr
  by_cases hin : 0 ≤ k ∧ k ≤ (xs.length : Int)
  · generalize hq : doAs fs (xs.take k.toNat) = q
    have HQ : Hid (doAs fs (xs.take k.toNat) = q) := hq
    have hqf := fit_cur HF.out hl (doAs_or fs (xs.take k.toNat))
    rw [hq] at hqf
    have HQF : Hid (FFit q.1) := hqf.1
    have hql := hqf.2
    have HRA : Hid (rr = if ((q.2 : Nat) : Int) < k then ([], false) else (lostD q.1 left, dOkB q.1)) := by rw [← HRR.out, cutR, if_pos hin, hq]; exact (rfl : _ = _)
    obtain ⟨h0, h1⟩ := hin
    have hwl : k.toNat ≤ xs.length := by omega
    have htl : (xs.take k.toNat).length = k.toNat := by simp; omega
    clear hq hqf HRR
    have h0' : ¬ k < 0 := by omega
    have h1' : ¬ (xs.length : Int) < k := by omega
    go_enter Try.func11, Try.ntmps11
    go_upto_region 3 with fail
    generalize hW : (w.alloc (.cells #[.slice (some ⟨g, 0, none⟩) fs.length cap] 26)).alloc (.cells #[.slice none 0 0] 26) = w1 at *
    clear hW
    have s1 : w.heap.size + 1 < w1.heap.size := M1.out.lt0
    have hS0 : Shut (SB w w1 w.heap.size (.slice (some ⟨g, 0, none⟩) fs.length cap) [(w.heap.size + 1, [.slice none 0 0]), (w.heap.size, [.slice (some ⟨g, 0, none⟩) fs.length cap])] []) := ⟨⟨M1.out.cell1, M1⟩⟩
    clear M1
    go_cut [10, 11] from 12 to 34 (fun u10 u11 wx => ∃ (nb lo hi vc : Nat) (va : Option Addr), u10 = .pointer (some ⟨nb, 0, none⟩) ∧ u11 = .int .i64 (q.2 : Nat) ∧ q.1.length ≤ vc ∧ (w1.heap.size ≤ lo ∧ w1.heap.size ≤ nb ∧ nb < wx.heap.size ∧ hi ≤ wx.heap.size) ∧ Shut (Mem w wx ((nb, [.slice va q.1.length vc]) :: [(w.heap.size + 1, [.slice none 0 0]), (w.heap.size, [.slice (some ⟨g, 0, none⟩) fs.length cap])]) ((va, fcs q.1, lo, hi) :: [])))
    case first =>
      go_region_held3 (fun w' => w'.cell? ⟨w.heap.size, 0, none⟩ = some (.slice (some ⟨g, 0, none⟩) fs.length cap) ∧ Shut (Mem w w' [(w.heap.size + 1, [.slice none 0 0]), (w.heap.size, [.slice (some ⟨g, 0, none⟩) fs.length cap])] []))
        (first | assumption | (exact SB.alloc hSC.out _) | (exact SB.below (by assumption) hbC) | (exact SB.alloc (by assumption) _) | (exact hS0.out.drew) | (exact SB.set hSC.out _ (by first | omega | (simp; done) | (simp; omega) | (unfold World.setCell; simp; done) | (unfold World.setCell; simp; omega)) (by first | omega | (simp; done) | (simp; omega) | (unfold World.setCell; simp; done) | (unfold World.setCell; simp; omega)) (by first | omega | (simp; done) | (simp; omega) | (unfold World.setCell; simp; done) | (unfold World.setCell; simp; omega)) (by simp)))
        (first
          | (go_at_call 6; refine (implDoActsR (q := q) HQ.out (some ⟨g, 0, none⟩) c xs.length _ (SB.wc (by assumption) HG.out).crow HF.out hl hfs (AR.take HXR.out (SB.low (by assumption)) hwl) HXT.out (by simp; omega) htl).mono ?_; rintro e wC ⟨va, vc, rfl, hfC, hcC, hbC⟩; have hSC : Shut (SB w wC w.heap.size (.slice (some ⟨g, 0, none⟩) fs.length cap) [(w.heap.size + 1, [.slice none 0 0]), (w.heap.size, [.slice (some ⟨g, 0, none⟩) fs.length cap])] []) := ⟨SB.below (by assumption) hbC⟩; have hsC := hbC.size; (try simp at hsC); (try (have hZ : Shut (WCells wC w1.heap.size [.slice none 0 0]) := ⟨WCells.grow (w := w1.drew.alloc (.cells #[.slice none 0 0] 26)) (wcells_new w1.drew #[.slice none 0 0] 26) hbC⟩; obtain ⟨z0, z1⟩ := hZ.out.2 0 _ rfl))))
      all_goals
        go_wp2_with fail
        go_meet
      all_goals
        first
          | exact ⟨wC.heap.size, _, wC.heap.size, vc, va, rfl, rfl, hcC, ⟨(by first | omega | (simp; done) | (simp; omega) | (unfold World.setCell; simp; done) | (unfold World.setCell; simp; omega)), (by first | omega | (simp; done) | (simp; omega) | (unfold World.setCell; simp; done) | (unfold World.setCell; simp; omega)), (by first | omega | (simp; done) | (simp; omega) | (unfold World.setCell; simp; done) | (unfold World.setCell; simp; omega)), (by first | omega | (simp; done) | (simp; omega) | (unfold World.setCell; simp; done) | (unfold World.setCell; simp; omega))⟩, ⟨(hSC.out.2.out.row hfC).box #[.slice va q.1.length vc] 26⟩⟩
          | exact ⟨w1.heap.size, _, wC.heap.size, vc, va, rfl, rfl, hcC, ⟨(by first | omega | (simp; done) | (simp; omega) | (unfold World.setCell; simp; done) | (unfold World.setCell; simp; omega)), (by first | omega | (simp; done) | (simp; omega) | (unfold World.setCell; simp; done) | (unfold World.setCell; simp; omega)), (by have := hZ.out.1; first | omega | (simp; omega) | (unfold World.setCell; simp; omega)), (by first | omega | (simp; done) | (simp; omega) | (unfold World.setCell; simp; done) | (unfold World.setCell; simp; omega))⟩, ⟨(hSC.out.2.out.row hfC).setBox hZ.out _ (by first | omega | (simp; done) | (simp; omega) | (unfold World.setCell; simp; done) | (unfold World.setCell; simp; omega)) (by first | omega | (simp; done) | (simp; omega) | (unfold World.setCell; simp; done) | (unfold World.setCell; simp; omega)) (by first | omega | (simp; done) | (simp; omega) | (unfold World.setCell; simp; done) | (unfold World.setCell; simp; omega))⟩⟩
    case rest =>
      obtain ⟨nb, lo, hi, vc, va, rfl, rfl, hvc, ⟨o1, o2, o3, o4⟩, M4⟩ := hcut
      have x4 := M4.out.cell0
      obtain ⟨y4, y5⟩ := (M4.out.cells _ (List.mem_cons_of_mem _ (List.mem_cons_self ..))).2 0 _ rfl
      have s4 := M4.out.lt1
      clear hS0
      by_cases hlt : ((q.2 : Nat) : Int) < k
      · have HE : Hid (rr = ([], false)) := HRA.out.trans (if_pos hlt)
        go_wp2_with fail
        refine bodyPost_ret (v := .tuple #[.agg #[.slice none 0 0], .bool false]) (by simp [results, Try.results11, go_sem, y4]) rfl ?_
        rw [HE.out]
        exact ⟨none, 0, rfl, .inl ⟨rfl, rfl⟩, Nat.le_refl _, M4.out.low.setCell (by simp) _⟩
      · have HE : Hid (rr = (lostD q.1 left, dOkB q.1)) := HRA.out.trans (if_neg hlt)
        go_wp2_with fail
        refine (implLoseDisk va d q.1 left vc capl _ M4.out.at0.crow HQF.out hql (HL.out.stays M4.out.low) hll).mono ?_
        intro e w7 hp7
        obtain ⟨v7, c7, rfl, hf7, hc7, hb7⟩ := hp7.made
        generalize lostD q.1 left = os at *
        generalize dOkB q.1 = D at *
        have M7 := M4.out.below hb7
        obtain ⟨z0, z1⟩ := (M7.cells _ (List.mem_cons_of_mem _ (List.mem_cons_self ..))).2 0 _ rfl
        have HB7 : Hid (Below w.heap.size w w7) := M7.low
        have HF7 : Shut (FRw w7 v7 (fcs os) wc.heap.size w7.heap.size) := ⟨hf7⟩
        have HW7 : Hid (w.heap.size ≤ wc.heap.size) := M4.out.low.size
        clear hb7 M7 M4 hf7 x4 y4 y5
        go_wp2_with fail
        refine bodyPost_ret (v := .tuple #[.agg #[.slice v7 os.length c7], .bool D]) (by simp [results, Try.results11, go_sem, z0]) rfl ?_
        rw [HE.out]
        refine ⟨v7, c7, rfl, ?_, hc7, HB7.out.setCell (by simp) _⟩
        rcases HF7.out with h | ⟨g', e1, e2, e3, e4⟩
        · exact .inl h
        · exact .inr ⟨g', e1, by have := HW7.out; omega, by simp [World.setCell]; omega, e4.other _ _ (by simp; omega)⟩
  · have HE : Hid (rr = ([], false)) := HRR.out.symm.trans (by rw [cutR, if_neg hin])
    by_cases h0 : k < 0
    · clear hin
      go_enter Try.func11, Try.ntmps11
      go_wp2_with fail
      refine bodyPost_ret (v := .tuple #[.agg #[.slice none 0 0], .bool false]) (by simp [results, Try.results11, go_sem]) rfl ?_
      rw [HE.out]
      exact ⟨none, 0, rfl, .inl ⟨rfl, rfl⟩, Nat.le_refl _, M1.out.low⟩
    · have h1 : (xs.length : Int) < k := by omega
      clear hin
      go_enter Try.func11, Try.ntmps11
      go_wp2_with fail
      refine bodyPost_ret (v := .tuple #[.agg #[.slice none 0 0], .bool false]) (by simp [results, Try.results11, go_sem]) rfl ?_
      rw [HE.out]
      exact ⟨none, 0, rfl, .inl ⟨rfl, rfl⟩, Nat.le_refl _, M1.out.low⟩
end Go.Proofs.Ytplcdcfhfaghiaa
/- ApRow: 'append' of a whole row, empty or not, to a row of one's own; and one element more, beside stretches. -/
namespace Go.Proofs.Ytplcdcfhfaghiaa
set_option maxRecDepth 100000
open Go.RowKit

theorem wpList_append_row {P : Program} (w : World) {ops : Array Oper} {rest : List Oper} {o : Oper} {a : Act} {Q : Exit → Act → World → Prop} (hgd : o.guard = none) (s x : Operand) (t : TypeId)
    (ho : o.op = .call { callee := .builtin .append, args := #[s, x], argTypes := #[t, t] })
    (base : Nat) (e : TypeId) (i : TypeInfo) (z : Value) (size bytes : Nat) (ht : P.underlying t = some (.slice e)) (hi : P.info? e = some i) (hz : i.zero = some z)
    (hsize : i.size = size) (hby : i.bytes = bytes) (hzs : z.cells.size = size) (hsz : 0 < size)
    (v : Value) (n : Nat) (xs : List Value) (hs : a.eval s = v) (hown : w.ownsRow base e size v n xs)
    (ra : Option Addr) (m c : Nat) (news : List Value) (hx : a.eval x = .slice ra m c) (hl : news.length = m * size) (hrow : CRow w ra news) (h1 : ∀ u ∈ news, u.oneCell' = true)
    (h63 : n + m ≤ maxLen) (hbytes : (n + m) * bytes ≤ 140737488355328) (hbase : base ≤ w.heap.size)
    (h : ∀ v' w', w'.ownsRow base e size v' (n + m) (xs ++ news) → w.grownBy w' v.ownBlock → (v'.ownBlock = v.ownBlock ∨ v'.ownBlock = some w.heap.size) → wpList P ops Q rest (a.put o.dst v') w') :
    wpList P ops Q (o :: rest) a w := by
  by_cases hm : m = 0
  · subst hm
    have hn : news = [] := List.eq_nil_of_length_eq_zero (by rw [hl]; simp)
    subst hn
    have hv : ∃ av cv, v = .slice av n cv ∧ n ≤ cv := by
      rcases hown.2 with ⟨rfl, h0⟩ | ⟨g, cap, cur, e1, _, _, h3, _⟩
      · exact ⟨none, 0, by rw [h0], by omega⟩
      · exact ⟨_, _, e1, h3⟩
    obtain ⟨av, cv, rfl, hcv⟩ := hv
    have hsrc : Src P i.size t (.slice ra 0 c) 0 [] w := by
      cases ra with
      | none => exact Src.ofNil w ht c
      | some q => exact Src.ofSlice w ht q 0 c [] (by simp) (by simp) (by simp)
    refine wpList_plain hgd fun K' hK' => ?_
    unfold Oper.wp
    simp [execOp, ho, resolve, invoke, builtin, hs, hx, run_append_nothing w t t o.type e i ht hi av n cv hcv _ hsrc, Result.andThen]
    exact hK' _ _ (h _ w (by simpa using hown) ⟨rfl, rfl, rfl, Nat.le_refl _, fun _ _ _ => rfl⟩ (.inl rfl))
  · obtain ⟨b, off, rfl, _, hc⟩ := hrow (by rw [hl]; exact Nat.mul_pos (Nat.pos_of_ne_zero hm) hsz)
    refine wpList_append_own_at _ hgd s x t ho base e i z size bytes ht hi hz hsize hby hzs hsz v n xs hs hown ⟨b, off, none⟩ m c news hx hl (fun j u hj => ?_) h1 h63 hbytes hbase (fun v' w' h2 h3 _ h5 => h v' w' h2 h3 h5)
    have e2 : (⟨b, off, none⟩ : Addr).add j = ⟨b, off + j, none⟩ := by cases j <;> simp [Addr.add]
    rw [e2]
    exact hc j u hj
end Go.Proofs.Ytplcdcfhfaghiaa
/- CutB: Acts, one behind the other, and acts that are cut, over any disk's row and acts with more room behind them (written by gen/mkcutb.py). -/
namespace Go.Proofs.Ytplcdcfhfaghiaa
set_option maxRecDepth 100000
open Go.RowKit
attribute [local go_sem ↓] Go.wp_at_zero Go.wp_at_succ

set_option maxHeartbeats 2000000 in
set_option maxRecDepth 100000 in
theorem specDoActsZ (ad : Option Addr) (c : Option Addr) (fs : List FM) (xs : List AM) (cap capx : Nat) (w : World) (hg : FRow w ad fs) (hf : FFit fs) (hl : fs.length ≤ 1048576) (hx : ARow w c xs) (hxg : AGood xs) (hxl : xs.length ≤ 1048576) :
    Calls Try.prog 7 #[.agg #[.slice ad fs.length cap], .slice c xs.length capx] w fun e w' => DiskPost (doAs fs xs).1 (.int .i64 ((doAs fs xs).2 : Nat)) w e w' := by
  obtain ⟨i0, hi, hz0, hz1, hz2⟩ := info_parts infoFile
  have HF : Hid (FFit fs) := hf
  have HXR : Hid (ARow w c xs) := hx
  have HXG : Hid (AGood xs) := hxg
  have m0 : Mem w w [] [] := ⟨by simp, by simp, Below.refl _ _⟩
  have m1 := (m0.box #[.slice ad fs.length cap] 26).box #[.slice none 0 0] 26
  have m2 := m1.alloc (.cells #[] 55)
  simp only [World.size_alloc] at m2
  have M2 : Shut (Mem w (((w.alloc (.cells #[.slice ad fs.length cap] 26)).alloc (.cells #[.slice none 0 0] 26)).alloc (.cells #[] 55)) [(w.heap.size + 1, [.slice none 0 0]), (w.heap.size, [.slice ad fs.length cap])] []) := ⟨m2⟩
  have hown0 : (((w.alloc (.cells #[.slice ad fs.length cap] 26)).alloc (.cells #[.slice none 0 0] 26)).alloc (.cells #[] 55)).ownsRow (w.heap.size + 2) 55 3 (.slice (some ⟨w.heap.size + 1 + 1, 0, none⟩) 0 0) 0 [] := by
    have := World.ownsRow_made (base := w.heap.size + 2) (e := 55) (size := 3) ((w.alloc (.cells #[.slice ad fs.length cap] 26)).alloc (.cells #[.slice none 0 0] 26)) #[] 0 (by simp) (by unfold maxLen; omega) (by simp)
    simpa using this
  have hsrc := hg.stays M2.out.low
  generalize hrr : doAs fs xs = rr
  have HRR : Hid (doAs fs xs = rr) := hrr
  clear hf hx hxg m0 m1 m2 hrr hg
  go_enter Try.func7, Try.ntmps7
  go_wp2_with (at_builtin; refine wpList_append_row _ rfl _ _ 24 rfl (w.heap.size + 2) 55 i0 _ 3 40 Try.underlying24 hi hz0 hz1 hz2 rfl (by decide) _ _ _ rfl hown0 ad fs.length cap (fcs fs) rfl (fcs_len fs) hsrc (one_fcs fs) (by unfold maxLen; omega) (by omega) (by simp) ?_; intro v3 w3 hown3 hg3 hn3; have hown4 : w3.ownsRow (w.heap.size + 2) 55 3 v3 fs.length (fcs fs) := (by simpa using hown3); obtain ⟨va3, vc3, rfl⟩ := own_formD hown4; clear hown3)
  have hm3 : Mem w w3 [(w.heap.size + 1, [.slice none 0 0])] [(va3, fcs fs, w.heap.size + 2, w3.heap.size)] := by
    have h1 : Mem w w3 [(w.heap.size + 1, [.slice none 0 0])] [] := ((M2.out.less (L' := [(w.heap.size + 1, [.slice none 0 0])]) (R' := []) (by simp) (by simp)).grown hg3 (fun p hp g' e => by have := (hown0.lt g' e).1; simp at hp; subst hp; simp; omega) (by simp) (fun g' e => by have := (hown0.lt g' e).1; omega))
    refine h1.row ?_
    rcases (FRw.of_own hown4).1 with h | ⟨g', e1, e2, e3, e4⟩
    · exact .inl h
    · exact .inr ⟨g', e1, by omega, e3, e4⟩
  have hs3 : w.heap.size + 1 < w3.heap.size := hm3.lt0
  have hvc3 : fs.length ≤ vc3 := (FRw.of_own hown4).2
  have hm4 := hm3.box #[.slice va3 fs.length vc3] 26
  have HM4 : Shut (Mem w (w3.alloc (.cells #[.slice va3 fs.length vc3] 26)) [(w3.heap.size, [.slice va3 fs.length vc3]), (w.heap.size + 1, [.slice none 0 0])] [(va3, fcs fs, w.heap.size + 2, w3.heap.size)]) := ⟨hm4⟩
  clear hm3 hm4 hown4 hg3 M2 hown0 hsrc hn3
  go_loopw [7] (fun v wr => ∃ (k hi vc : Nat) (va : Option Addr) (cur : List FM), v = .int .i64 k ∧ k ≤ xs.length ∧ Shut (Ran fs xs k cur ∧ (cur = fs ∨ DOk cur)) ∧ cur.length ≤ vc ∧ hi ≤ wr.heap.size ∧ Shut (Mem w wr [(w3.heap.size, [.slice va cur.length vc]), (w.heap.size + 1, [.slice none 0 0])] [(va, fcs cur, w.heap.size + 2, hi)])) (fun v _ => xs.length - (intOf v).toNat)
  case atStart => exact ⟨0, w3.heap.size, vc3, va3, fs, rfl, Nat.zero_le _, ⟨Ran.start fs xs, .inl rfl⟩, hvc3, by simp, HM4⟩
  case round =>
    clear HM4 hvc3
    obtain ⟨k, hi', vc, va, cur, rfl, hk, hran, hvc, hhi, HM⟩ := hrel
    obtain ⟨hfit, hcl⟩ := fit_cur HF.out hl hran.out.2
    have HFC : Hid (FFit cur) := hfit
    clear hfit
    by_cases hlt : k < xs.length
    · obtain ⟨bx, off, rfl, lb, hc⟩ := ARow.at (HXR.out.stays HM.out.low) (by omega)
      have lb0 : bx < w.heap.size := by
        obtain ⟨b', o', e', l', _⟩ := ARow.at HXR.out (by omega)
        simp at e'; omega
      obtain ⟨d0, d1, d2, d3⟩ := hc k hlt
      have hgood := HXG.out xs[k] (List.getElem_mem hlt)
      have HST : Hid (∀ o, doA cur xs[k] = some o → Ran fs xs (k + 1) o) := fun o ho => hran.out.1.step hlt ho
      have HSP : Hid (doA cur xs[k] = none → doAs fs xs = (cur, k)) := fun ho => hran.out.1.stop hlt ho
      obtain ⟨x, hxe⟩ : ∃ x, x = xs[k] := ⟨_, rfl⟩
      rw [← hxe] at d0 d1 d2 d3 hgood HST HSP
      obtain ⟨g1, g2, g3⟩ := hgood
      have x0 := HM.out.cell0
      have hSA : Shut (SA w wr w3.heap.size (.slice va cur.length vc) bx (off + k * 4) (off + k * 4 + 1) (off + k * 4 + 2) (off + k * 4 + 3) x [(w3.heap.size, [.slice va cur.length vc]), (w.heap.size + 1, [.slice none 0 0])] [(va, fcs cur, w.heap.size + 2, hi')]) := ⟨⟨x0, d0, d1, d2, d3, HM⟩⟩
      have k0 : (0 : Int) ≤ (k : Int) := by omega
      have k1 : (k : Int) < (xs.length : Int) := by omega
      have hw3 := HM.out.lt0
      clear hxe hc hran HM
      generalize hre : doA cur x = r at HST HSP
      have HRE : Hid (doA cur x = r) := hre
      clear hre
      go_upto_region 5 with fail
      go_cut [8, 9] from 15 to 34 (fun u8 u9 wx => ∃ (nb hi2 vc' : Nat) (va' : Option Addr), u8 = .pointer (some ⟨nb, 0, none⟩) ∧ u9 = .bool r.isSome ∧ (r.getD []).length ≤ vc' ∧ hi2 ≤ wx.heap.size ∧ hi' ≤ wx.heap.size ∧ nb ≠ w3.heap.size ∧ Shut (Mem w wx [(nb, [.slice va' (r.getD []).length vc']), (w3.heap.size, [.slice va cur.length vc]), (w.heap.size + 1, [.slice none 0 0])] [(va', fcs (r.getD []), w3.heap.size + 1, hi2), (va, fcs cur, w.heap.size + 2, hi')]))
      case first =>
        go_region_held3 (fun w' => w'.cell? ⟨w3.heap.size, 0, none⟩ = some (.slice va cur.length vc) ∧ w'.cell? ⟨bx, off + k * 4, none⟩ = some (.int .i64 x.kind) ∧ w'.cell? ⟨bx, off + k * 4 + 1, none⟩ = some (.string x.name) ∧ w'.cell? ⟨bx, off + k * 4 + 2, none⟩ = some (.string x.text) ∧ w'.cell? ⟨bx, off + k * 4 + 3, none⟩ = some (.string x.dst) ∧ Shut (Mem w w' [(w3.heap.size, [.slice va cur.length vc]), (w.heap.size + 1, [.slice none 0 0])] [(va, fcs cur, w.heap.size + 2, hi')]))
          (first | assumption | (exact SA.below (x := x) (by assumption) hb6) | (exact SA.alloc (x := x) hS6.out _) | (exact SA.alloc (x := x) (by assumption) _) | (exact hSA.out.drew) | (exact SA.set (x := x) hS6.out _ (by simp; omega) (by simp; omega) (by simp; omega) (by simp; omega) (by simp; omega)))
          (first
            | (go_at_call 23; refine (specDoActR (r := r) HRE.out va vc _ (SA.row (x := x) (by assumption)) HFC.out hcl g1 g2 g3).mono ?_; rintro e w6 ⟨va6, vc6, rfl, hf6, hc6, hb6⟩; have hS6 : Shut (SA w w6 w3.heap.size (.slice va cur.length vc) bx (off + k * 4) (off + k * 4 + 1) (off + k * 4 + 2) (off + k * 4 + 3) x [(w3.heap.size, [.slice va cur.length vc]), (w.heap.size + 1, [.slice none 0 0])] [(va, fcs cur, w.heap.size + 2, hi')]) := ⟨SA.below (x := x) (by assumption) hb6⟩; (try (have hz : w6.cell? ⟨wr.heap.size, 0, none⟩ = some (.slice none 0 0) ∧ w6.frozen? ⟨wr.heap.size, 0, none⟩ = false := (WCells.grow (w := wr.drew.alloc (.cells #[.slice none 0 0] 26)) (wcells_new wr.drew #[.slice none 0 0] 26) hb6).2 0 _ rfl; obtain ⟨z0, z1⟩ := hz; have hZ : Shut (WCells w6 wr.heap.size [.slice none 0 0]) := ⟨WCells.grow (w := wr.drew.alloc (.cells #[.slice none 0 0] 26)) (wcells_new wr.drew #[.slice none 0 0] 26) hb6⟩))))
        all_goals
          have hs6 := hb6.size
          simp at hs6
          go_wp2_with fail
          go_meet
        all_goals
          first
            | exact ⟨w6.heap.size, w6.heap.size, vc6, va6, rfl, rfl, hc6, by simp, by simp; omega, by omega, ⟨(hS6.out.2.2.2.2.2.out.row (hf6.wide (by simp; omega))).box #[.slice va6 (r.getD []).length vc6] 26⟩⟩
            | exact ⟨wr.heap.size, w6.heap.size, vc6, va6, rfl, rfl, hc6, by simp [World.setCell], by simp [World.setCell]; omega, by omega, ⟨((hS6.out.2.2.2.2.2.out.row hf6).setBox hZ.out _ (by omega) (by simp; omega) (by simp; omega)).wide (by simp; omega)⟩⟩
      case rest =>
        obtain ⟨nb, hi2, vc', va', rfl, rfl, hvc', hhi2, hhi3, hnb, HM⟩ := hcut
        have x9 := HM.out.cell0
        have y9 := HM.out.cells _ (List.mem_cons_of_mem _ (List.mem_cons_self ..))
        obtain ⟨y0, y1⟩ := y9.2 0 _ rfl
        have z9 := HM.out.cells _ (List.mem_cons_of_mem _ (List.mem_cons_of_mem _ (List.mem_cons_self ..)))
        obtain ⟨z0, z1⟩ := z9.2 0 _ rfl
        have hs9 := HM.out.lt1
        clear hSA x0 d0 d1 d2 d3 y9 z9
        cases r with
        | none =>
          have HEQ : Hid (rr = (cur, k)) := HRR.out.symm.trans (HSP.out rfl)
          have HM' : Shut (Mem w wc [(w3.heap.size, [.slice va cur.length vc]), (w.heap.size + 1, [.slice none 0 0])] [(va, fcs cur, w.heap.size + 2, hi')]) := ⟨HM.out.less (fun _ h => List.mem_cons_of_mem _ h) (fun _ h => List.mem_cons_of_mem _ h)⟩
          clear HM x9 y0 y1 z0 z1
          have HM := HM'
          clear HM'
          obtain ⟨qc, qf⟩ := (HM.out.cells _ (List.mem_cons_self ..)).2 0 _ rfl
          obtain ⟨yc, yf⟩ := (HM.out.cells _ (List.mem_cons_of_mem _ (List.mem_cons_self ..))).2 0 _ rfl
          go_wp2_with fail
          show bodyPost Try.prog Try.f7 _ Exit.ret _ _
          refine bodyPost_ret (v := .tuple #[.agg #[.slice va cur.length vc], .int .i64 (k : Nat)]) (by simp [results, Try.results7, go_sem, yc]) rfl ?_
          rw [HEQ.out]
          refine ⟨va, vc, rfl, ?_, hvc, HM.out.low.setCell (by simp) _⟩
          rcases HM.out.at0 with h | ⟨g', e1, e2, e3, e4⟩
          · exact .inl h
          · exact .inr ⟨g', e1, by omega, by have := e4.1; simp [World.setCell]; omega, e4.other _ _ (by simp; omega)⟩
        | some o =>
          have HOO : Shut (Ran fs xs (k + 1) o ∧ (o = fs ∨ DOk o)) := ⟨HST.out o rfl, .inr (doA_ok HRE.out)⟩
          have HM' : Shut (Mem w (wc.setCell ⟨w3.heap.size, 0, none⟩ (.slice va' o.length vc')) [(w3.heap.size, [.slice va' o.length vc']), (w.heap.size + 1, [.slice none 0 0])] [(va', fcs o, w.heap.size + 2, hi2)]) := ⟨(HM.out.less (L' := [(w.heap.size + 1, [.slice none 0 0])]) (R' := [(va', fcs o, w3.heap.size + 1, hi2)]) (by simp) (by simp)).setBox (HM.out.cells _ (List.mem_cons_of_mem _ (List.mem_cons_self ..))) _ (by omega) (by simp; omega) (by simp) |>.wide (by omega)⟩
          clear HM
          go_wp2_with fail
          go_roundw
          case rel => exact ⟨k + 1, hi2, vc', va', o, by go_num, by omega, HOO, hvc', by simpa [World.setCell] using hhi2, HM'⟩
          case measure => simp [intOf]; omega
    · have e : k = xs.length := by omega
      subst e
      have HEQ : Hid (rr = (cur, xs.length)) := HRR.out.symm.trans hran.out.1.all
      clear hran
      obtain ⟨qc, qf⟩ := (HM.out.cells _ (List.mem_cons_self ..)).2 0 _ rfl
      obtain ⟨yc, yf⟩ := (HM.out.cells _ (List.mem_cons_of_mem _ (List.mem_cons_self ..))).2 0 _ rfl
      go_wp2_with fail
      show bodyPost Try.prog Try.f7 _ Exit.ret _ _
      refine bodyPost_ret (v := .tuple #[.agg #[.slice va cur.length vc], .int .i64 (xs.length : Nat)]) (by simp [results, Try.results7, go_sem, yc]) rfl ?_
      rw [HEQ.out]
      refine ⟨va, vc, rfl, ?_, hvc, HM.out.low.setCell (by simp) _⟩
      rcases HM.out.at0 with h | ⟨g', e1, e2, e3, e4⟩
      · exact .inl h
      · exact .inr ⟨g', e1, by omega, by have := e4.1; simp [World.setCell]; omega, e4.other _ _ (by simp; omega)⟩
theorem specDoActsZR {fs : List FM} {ys : List AM} {q : List FM × Nat} (hq : doAs fs ys = q) (ad : Option Addr) (c : Option Addr) (capx : Nat) (w : World) {cap n : Nat} (hg : FRow w ad fs) (hf : FFit fs) (hl : fs.length ≤ 1048576) (hx : ARow w c ys) (hxg : AGood ys) (hxl : ys.length ≤ 1048576) (hn : ys.length = n) :
    Calls Try.prog 7 #[.agg #[.slice ad fs.length cap], .slice c n capx] w fun e w' => DiskPost q.1 (.int .i64 (q.2 : Nat)) w e w' := by
  subst hq hn; exact specDoActsZ ad c fs ys cap capx w hg hf hl hx hxg hxl
set_option maxHeartbeats 2000000 in
set_option maxRecDepth 100000 in
theorem specCutActsZ (ad : Option Addr) (c d : Option Addr) (fs : List FM) (xs : List AM) (k : Int) (left : List Int) (cap capx capl : Nat) (hcx : xs.length ≤ capx) (w : World) (hg : FRow w ad fs) (hf : FFit fs) (hl : fs.length ≤ 1048576) (_hfs : fsum fs ≤ 1048576) (hx : ARow w c xs) (hxg : AGood xs) (hxl : xs.length ≤ 1048576) (hd : IRowD w d left) (hll : left.length ≤ 1048576) :
    Calls Try.prog 12 #[.agg #[.slice ad fs.length cap], .slice c xs.length capx, .int .i64 k, .slice d left.length capl] w fun e w' => DiskPost (cutR fs xs k left).1 (.bool (cutR fs xs k left).2) w e w' := by
  have HF : Hid (FFit fs) := hf
  have HG : Hid (FRow w ad fs) := hg
  have HXR : Hid (ARow w c xs) := hx
  have HXT : Hid (AGood (xs.take k.toNat)) := fun x hx => hxg x (List.mem_of_mem_take hx)
  have HL : Hid (IRowD w d left) := hd
  have m0 : Mem w w [] [] := ⟨by simp, by simp, Below.refl _ _⟩
  have m1 := (m0.box #[.slice ad fs.length cap] 26).box #[.slice none 0 0] 26
  simp only [World.size_alloc] at m1
  have M1 : Shut (Mem w ((w.alloc (.cells #[.slice ad fs.length cap] 26)).alloc (.cells #[.slice none 0 0] 26)) [(w.heap.size + 1, [.slice none 0 0]), (w.heap.size, [.slice ad fs.length cap])] []) := ⟨m1⟩
  generalize hrr : cutR fs xs k left = rr
  have HRR : Hid (cutR fs xs k left = rr) := hrr
  clear hf hg hx hxg hd m0 m1 hrr
  by_cases hin : 0 ≤ k ∧ k ≤ (xs.length : Int)
  · generalize hq : doAs fs (xs.take k.toNat) = q
    have HQ : Hid (doAs fs (xs.take k.toNat) = q) := hq
    have hqf := fit_cur HF.out hl (doAs_or fs (xs.take k.toNat))
    rw [hq] at hqf
    have HQF : Hid (FFit q.1) := hqf.1
    have hql := hqf.2
    have HRA : Hid (rr = if ((q.2 : Nat) : Int) < k then ([], false) else (lostD q.1 left, dOkB q.1)) := by rw [← HRR.out, cutR, if_pos hin, hq]; exact (rfl : _ = _)
    obtain ⟨h0, h1⟩ := hin
    have h2 : k ≤ (capx : Int) := by omega
    have hwl : k.toNat ≤ xs.length := by omega
    have htl : (xs.take k.toNat).length = k.toNat := by simp; omega
    clear hq hqf HRR
    have hb : decide ((0 : Int) ≤ k ∧ k ≤ (xs.length : Int)) = true := decide_eq_true ⟨h0, h1⟩
    go_enter Try.func12, Try.ntmps12
    go_wp2_with fail
    refine (l01In_is k 0 (xs.length : Int) _ true hb).mono ?_
    intro e w1' hw1
    obtain ⟨rfl, hww⟩ := hw1
    rw [hww]
    clear hww w1' hb
    go_upto_region 3 with fail
    generalize hW : (w.alloc (.cells #[.slice ad fs.length cap] 26)).alloc (.cells #[.slice none 0 0] 26) = w1 at *
    clear hW
    have s1 : w.heap.size + 1 < w1.heap.size := M1.out.lt0
    have hS0 : Shut (SB w w1 w.heap.size (.slice ad fs.length cap) [(w.heap.size + 1, [.slice none 0 0]), (w.heap.size, [.slice ad fs.length cap])] []) := ⟨⟨M1.out.cell1, M1⟩⟩
    clear M1
    go_cut [10, 11] from 12 to 34 (fun u10 u11 wx => ∃ (nb lo hi vc : Nat) (va : Option Addr), u10 = .pointer (some ⟨nb, 0, none⟩) ∧ u11 = .int .i64 (q.2 : Nat) ∧ q.1.length ≤ vc ∧ (w1.heap.size ≤ lo ∧ w1.heap.size ≤ nb ∧ nb < wx.heap.size ∧ hi ≤ wx.heap.size) ∧ Shut (Mem w wx ((nb, [.slice va q.1.length vc]) :: [(w.heap.size + 1, [.slice none 0 0]), (w.heap.size, [.slice ad fs.length cap])]) ((va, fcs q.1, lo, hi) :: [])))
    case first =>
      go_region_held3 (fun w' => w'.cell? ⟨w.heap.size, 0, none⟩ = some (.slice ad fs.length cap) ∧ Shut (Mem w w' [(w.heap.size + 1, [.slice none 0 0]), (w.heap.size, [.slice ad fs.length cap])] []))
        (first | assumption | (exact SB.alloc hSC.out _) | (exact SB.below (by assumption) hbC) | (exact SB.alloc (by assumption) _) | (exact hS0.out.drew) | (exact SB.set hSC.out _ (by first | omega | (simp; done) | (simp; omega) | (unfold World.setCell; simp; done) | (unfold World.setCell; simp; omega)) (by first | omega | (simp; done) | (simp; omega) | (unfold World.setCell; simp; done) | (unfold World.setCell; simp; omega)) (by first | omega | (simp; done) | (simp; omega) | (unfold World.setCell; simp; done) | (unfold World.setCell; simp; omega)) (by simp)))
        (first
          | (go_at_call 7; refine (specDoActsZR (q := q) HQ.out ad c capx _ (CRow.stays HG.out (SB.low (by assumption))) HF.out hl (AR.take HXR.out (SB.low (by assumption)) hwl) HXT.out (by simp; omega) htl).mono ?_; rintro e wC ⟨va, vc, rfl, hfC, hcC, hbC⟩; have hSC : Shut (SB w wC w.heap.size (.slice ad fs.length cap) [(w.heap.size + 1, [.slice none 0 0]), (w.heap.size, [.slice ad fs.length cap])] []) := ⟨SB.below (by assumption) hbC⟩; have hsC := hbC.size; (try simp at hsC); (try (have hZ : Shut (WCells wC w1.heap.size [.slice none 0 0]) := ⟨WCells.grow (w := w1.drew.alloc (.cells #[.slice none 0 0] 26)) (wcells_new w1.drew #[.slice none 0 0] 26) hbC⟩; obtain ⟨z0, z1⟩ := hZ.out.2 0 _ rfl))))
      all_goals
        go_wp2_with fail
        go_meet
      all_goals
        first
          | exact ⟨wC.heap.size, _, wC.heap.size, vc, va, rfl, rfl, hcC, ⟨(by first | omega | (simp; done) | (simp; omega) | (unfold World.setCell; simp; done) | (unfold World.setCell; simp; omega)), (by first | omega | (simp; done) | (simp; omega) | (unfold World.setCell; simp; done) | (unfold World.setCell; simp; omega)), (by first | omega | (simp; done) | (simp; omega) | (unfold World.setCell; simp; done) | (unfold World.setCell; simp; omega)), (by first | omega | (simp; done) | (simp; omega) | (unfold World.setCell; simp; done) | (unfold World.setCell; simp; omega))⟩, ⟨(hSC.out.2.out.row hfC).box #[.slice va q.1.length vc] 26⟩⟩
          | exact ⟨w1.heap.size, _, wC.heap.size, vc, va, rfl, rfl, hcC, ⟨(by first | omega | (simp; done) | (simp; omega) | (unfold World.setCell; simp; done) | (unfold World.setCell; simp; omega)), (by first | omega | (simp; done) | (simp; omega) | (unfold World.setCell; simp; done) | (unfold World.setCell; simp; omega)), (by have := hZ.out.1; first | omega | (simp; omega) | (unfold World.setCell; simp; omega)), (by first | omega | (simp; done) | (simp; omega) | (unfold World.setCell; simp; done) | (unfold World.setCell; simp; omega))⟩, ⟨(hSC.out.2.out.row hfC).setBox hZ.out _ (by first | omega | (simp; done) | (simp; omega) | (unfold World.setCell; simp; done) | (unfold World.setCell; simp; omega)) (by first | omega | (simp; done) | (simp; omega) | (unfold World.setCell; simp; done) | (unfold World.setCell; simp; omega)) (by first | omega | (simp; done) | (simp; omega) | (unfold World.setCell; simp; done) | (unfold World.setCell; simp; omega))⟩⟩
    case rest =>
      obtain ⟨nb, lo, hi, vc, va, rfl, rfl, hvc, ⟨o1, o2, o3, o4⟩, M4⟩ := hcut
      have x4 := M4.out.cell0
      obtain ⟨y4, y5⟩ := (M4.out.cells _ (List.mem_cons_of_mem _ (List.mem_cons_self ..))).2 0 _ rfl
      have s4 := M4.out.lt1
      clear hS0
      by_cases hlt : ((q.2 : Nat) : Int) < k
      · have HE : Hid (rr = ([], false)) := HRA.out.trans (if_pos hlt)
        go_wp2_with fail
        refine bodyPost_ret (v := .tuple #[.agg #[.slice none 0 0], .bool false]) (by simp [results, Try.results12, go_sem, y4]) rfl ?_
        rw [HE.out]
        exact ⟨none, 0, rfl, .inl ⟨rfl, rfl⟩, Nat.le_refl _, M4.out.low.setCell (by simp) _⟩
      · have HE : Hid (rr = (lostD q.1 left, dOkB q.1)) := HRA.out.trans (if_neg hlt)
        go_wp2_with fail
        refine (specLoseDisk va d q.1 left vc capl _ M4.out.at0.crow HQF.out hql (HL.out.stays M4.out.low) hll).mono ?_
        intro e w7 hp7
        obtain ⟨v7, c7, rfl, hf7, hc7, hb7⟩ := hp7.made
        generalize lostD q.1 left = os at *
        generalize dOkB q.1 = D at *
        have M7 := M4.out.below hb7
        obtain ⟨z0, z1⟩ := (M7.cells _ (List.mem_cons_of_mem _ (List.mem_cons_self ..))).2 0 _ rfl
        have HB7 : Hid (Below w.heap.size w w7) := M7.low
        have HF7 : Shut (FRw w7 v7 (fcs os) wc.heap.size w7.heap.size) := ⟨hf7⟩
        have HW7 : Hid (w.heap.size ≤ wc.heap.size) := M4.out.low.size
        clear hb7 M7 M4 hf7 x4 y4 y5
        go_wp2_with fail
        refine bodyPost_ret (v := .tuple #[.agg #[.slice v7 os.length c7], .bool D]) (by simp [results, Try.results12, go_sem, z0]) rfl ?_
        rw [HE.out]
        refine ⟨v7, c7, rfl, ?_, hc7, HB7.out.setCell (by simp) _⟩
        rcases HF7.out with h | ⟨g', e1, e2, e3, e4⟩
        · exact .inl h
        · exact .inr ⟨g', e1, by have := HW7.out; omega, by simp [World.setCell]; omega, e4.other _ _ (by simp; omega)⟩
  · have HE : Hid (rr = ([], false)) := HRR.out.symm.trans (by rw [cutR, if_neg hin])
    have hb : decide ((0 : Int) ≤ k ∧ k ≤ (xs.length : Int)) = false := decide_eq_false hin
    clear hin
    go_enter Try.func12, Try.ntmps12
    go_wp2_with fail
    refine (l01In_is k 0 (xs.length : Int) _ false hb).mono ?_
    intro e w1' hw1
    obtain ⟨rfl, hww⟩ := hw1
    rw [hww]
    clear hww w1' hb
    go_wp2_with fail
    refine bodyPost_ret (v := .tuple #[.agg #[.slice none 0 0], .bool false]) (by simp [results, Try.results12, go_sem]) rfl ?_
    rw [HE.out]
    exact ⟨none, 0, rfl, .inl ⟨rfl, rfl⟩, Nat.le_refl _, M1.out.low⟩
set_option maxHeartbeats 2000000 in
set_option maxRecDepth 100000 in
theorem implCutActsZ (ad : Option Addr) (c d : Option Addr) (fs : List FM) (xs : List AM) (k : Int) (left : List Int) (cap capx capl : Nat) (hcx : xs.length ≤ capx) (w : World) (hg : FRow w ad fs) (hf : FFit fs) (hl : fs.length ≤ 1048576) (hfs : fsum fs ≤ 1048576) (hx : ARow w c xs) (hxg : AGood xs) (hxl : xs.length ≤ 1048576) (hd : IRowD w d left) (hll : left.length ≤ 1048576) :
    Calls Try.prog 11 #[.agg #[.slice ad fs.length cap], .slice c xs.length capx, .int .i64 k, .slice d left.length capl] w fun e w' => DiskPost (cutR fs xs k left).1 (.bool (cutR fs xs k left).2) w e w' := by
  have HF : Hid (FFit fs) := hf
  have HG : Hid (FRow w ad fs) := hg
  have HXR : Hid (ARow w c xs) := hx
  have HXT : Hid (AGood (xs.take k.toNat)) := fun x hx => hxg x (List.mem_of_mem_take hx)
  have HL : Hid (IRowD w d left) := hd
  have m0 : Mem w w [] [] := ⟨by simp, by simp, Below.refl _ _⟩
  have m1 := (m0.box #[.slice ad fs.length cap] 26).box #[.slice none 0 0] 26
  simp only [World.size_alloc] at m1
  have M1 : Shut (Mem w ((w.alloc (.cells #[.slice ad fs.length cap] 26)).alloc (.cells #[.slice none 0 0] 26)) [(w.heap.size + 1, [.slice none 0 0]), (w.heap.size, [.slice ad fs.length cap])] []) := ⟨m1⟩
  generalize hrr : cutR fs xs k left = rr
  have HRR : Hid (cutR fs xs k left = rr) := hrr
  clear hf hg hx hxg hd m0 m1 hrr
  by_cases hin : 0 ≤ k ∧ k ≤ (xs.length : Int)
  · generalize hq : doAs fs (xs.take k.toNat) = q
    have HQ : Hid (doAs fs (xs.take k.toNat) = q) := hq
    have hqf := fit_cur HF.out hl (doAs_or fs (xs.take k.toNat))
    rw [hq] at hqf
    have HQF : Hid (FFit q.1) := hqf.1
    have hql := hqf.2
    have HRA : Hid (rr = if ((q.2 : Nat) : Int) < k then ([], false) else (lostD q.1 left, dOkB q.1)) := by rw [← HRR.out, cutR, if_pos hin, hq]; exact (rfl : _ = _)
    obtain ⟨h0, h1⟩ := hin
    have h2 : k ≤ (capx : Int) := by omega
    have hwl : k.toNat ≤ xs.length := by omega
    have htl : (xs.take k.toNat).length = k.toNat := by simp; omega
    clear hq hqf HRR
    have h0' : ¬ k < 0 := by omega
    have h1' : ¬ (xs.length : Int) < k := by omega
    go_enter Try.func11, Try.ntmps11
    go_upto_region 3 with fail
    generalize hW : (w.alloc (.cells #[.slice ad fs.length cap] 26)).alloc (.cells #[.slice none 0 0] 26) = w1 at *
    clear hW
    have s1 : w.heap.size + 1 < w1.heap.size := M1.out.lt0
    have hS0 : Shut (SB w w1 w.heap.size (.slice ad fs.length cap) [(w.heap.size + 1, [.slice none 0 0]), (w.heap.size, [.slice ad fs.length cap])] []) := ⟨⟨M1.out.cell1, M1⟩⟩
    clear M1
    go_cut [10, 11] from 12 to 34 (fun u10 u11 wx => ∃ (nb lo hi vc : Nat) (va : Option Addr), u10 = .pointer (some ⟨nb, 0, none⟩) ∧ u11 = .int .i64 (q.2 : Nat) ∧ q.1.length ≤ vc ∧ (w1.heap.size ≤ lo ∧ w1.heap.size ≤ nb ∧ nb < wx.heap.size ∧ hi ≤ wx.heap.size) ∧ Shut (Mem w wx ((nb, [.slice va q.1.length vc]) :: [(w.heap.size + 1, [.slice none 0 0]), (w.heap.size, [.slice ad fs.length cap])]) ((va, fcs q.1, lo, hi) :: [])))
    case first =>
      go_region_held3 (fun w' => w'.cell? ⟨w.heap.size, 0, none⟩ = some (.slice ad fs.length cap) ∧ Shut (Mem w w' [(w.heap.size + 1, [.slice none 0 0]), (w.heap.size, [.slice ad fs.length cap])] []))
        (first | assumption | (exact SB.alloc hSC.out _) | (exact SB.below (by assumption) hbC) | (exact SB.alloc (by assumption) _) | (exact hS0.out.drew) | (exact SB.set hSC.out _ (by first | omega | (simp; done) | (simp; omega) | (unfold World.setCell; simp; done) | (unfold World.setCell; simp; omega)) (by first | omega | (simp; done) | (simp; omega) | (unfold World.setCell; simp; done) | (unfold World.setCell; simp; omega)) (by first | omega | (simp; done) | (simp; omega) | (unfold World.setCell; simp; done) | (unfold World.setCell; simp; omega)) (by simp)))
        (first
          | (go_at_call 6; refine (implDoActsR (q := q) HQ.out ad c capx _ (CRow.stays HG.out (SB.low (by assumption))) HF.out hl hfs (AR.take HXR.out (SB.low (by assumption)) hwl) HXT.out (by simp; omega) htl).mono ?_; rintro e wC ⟨va, vc, rfl, hfC, hcC, hbC⟩; have hSC : Shut (SB w wC w.heap.size (.slice ad fs.length cap) [(w.heap.size + 1, [.slice none 0 0]), (w.heap.size, [.slice ad fs.length cap])] []) := ⟨SB.below (by assumption) hbC⟩; have hsC := hbC.size; (try simp at hsC); (try (have hZ : Shut (WCells wC w1.heap.size [.slice none 0 0]) := ⟨WCells.grow (w := w1.drew.alloc (.cells #[.slice none 0 0] 26)) (wcells_new w1.drew #[.slice none 0 0] 26) hbC⟩; obtain ⟨z0, z1⟩ := hZ.out.2 0 _ rfl))))
      all_goals
        go_wp2_with fail
        go_meet
      all_goals
        first
          | exact ⟨wC.heap.size, _, wC.heap.size, vc, va, rfl, rfl, hcC, ⟨(by first | omega | (simp; done) | (simp; omega) | (unfold World.setCell; simp; done) | (unfold World.setCell; simp; omega)), (by first | omega | (simp; done) | (simp; omega) | (unfold World.setCell; simp; done) | (unfold World.setCell; simp; omega)), (by first | omega | (simp; done) | (simp; omega) | (unfold World.setCell; simp; done) | (unfold World.setCell; simp; omega)), (by first | omega | (simp; done) | (simp; omega) | (unfold World.setCell; simp; done) | (unfold World.setCell; simp; omega))⟩, ⟨(hSC.out.2.out.row hfC).box #[.slice va q.1.length vc] 26⟩⟩
          | exact ⟨w1.heap.size, _, wC.heap.size, vc, va, rfl, rfl, hcC, ⟨(by first | omega | (simp; done) | (simp; omega) | (unfold World.setCell; simp; done) | (unfold World.setCell; simp; omega)), (by first | omega | (simp; done) | (simp; omega) | (unfold World.setCell; simp; done) | (unfold World.setCell; simp; omega)), (by have := hZ.out.1; first | omega | (simp; omega) | (unfold World.setCell; simp; omega)), (by first | omega | (simp; done) | (simp; omega) | (unfold World.setCell; simp; done) | (unfold World.setCell; simp; omega))⟩, ⟨(hSC.out.2.out.row hfC).setBox hZ.out _ (by first | omega | (simp; done) | (simp; omega) | (unfold World.setCell; simp; done) | (unfold World.setCell; simp; omega)) (by first | omega | (simp; done) | (simp; omega) | (unfold World.setCell; simp; done) | (unfold World.setCell; simp; omega)) (by first | omega | (simp; done) | (simp; omega) | (unfold World.setCell; simp; done) | (unfold World.setCell; simp; omega))⟩⟩
    case rest =>
      obtain ⟨nb, lo, hi, vc, va, rfl, rfl, hvc, ⟨o1, o2, o3, o4⟩, M4⟩ := hcut
      have x4 := M4.out.cell0
      obtain ⟨y4, y5⟩ := (M4.out.cells _ (List.mem_cons_of_mem _ (List.mem_cons_self ..))).2 0 _ rfl
      have s4 := M4.out.lt1
      clear hS0
      by_cases hlt : ((q.2 : Nat) : Int) < k
      · have HE : Hid (rr = ([], false)) := HRA.out.trans (if_pos hlt)
        go_wp2_with fail
        refine bodyPost_ret (v := .tuple #[.agg #[.slice none 0 0], .bool false]) (by simp [results, Try.results11, go_sem, y4]) rfl ?_
        rw [HE.out]
        exact ⟨none, 0, rfl, .inl ⟨rfl, rfl⟩, Nat.le_refl _, M4.out.low.setCell (by simp) _⟩
      · have HE : Hid (rr = (lostD q.1 left, dOkB q.1)) := HRA.out.trans (if_neg hlt)
        go_wp2_with fail
        refine (implLoseDisk va d q.1 left vc capl _ M4.out.at0.crow HQF.out hql (HL.out.stays M4.out.low) hll).mono ?_
        intro e w7 hp7
        obtain ⟨v7, c7, rfl, hf7, hc7, hb7⟩ := hp7.made
        generalize lostD q.1 left = os at *
        generalize dOkB q.1 = D at *
        have M7 := M4.out.below hb7
        obtain ⟨z0, z1⟩ := (M7.cells _ (List.mem_cons_of_mem _ (List.mem_cons_self ..))).2 0 _ rfl
        have HB7 : Hid (Below w.heap.size w w7) := M7.low
        have HF7 : Shut (FRw w7 v7 (fcs os) wc.heap.size w7.heap.size) := ⟨hf7⟩
        have HW7 : Hid (w.heap.size ≤ wc.heap.size) := M4.out.low.size
        clear hb7 M7 M4 hf7 x4 y4 y5
        go_wp2_with fail
        refine bodyPost_ret (v := .tuple #[.agg #[.slice v7 os.length c7], .bool D]) (by simp [results, Try.results11, go_sem, z0]) rfl ?_
        rw [HE.out]
        refine ⟨v7, c7, rfl, ?_, hc7, HB7.out.setCell (by simp) _⟩
        rcases HF7.out with h | ⟨g', e1, e2, e3, e4⟩
        · exact .inl h
        · exact .inr ⟨g', e1, by have := HW7.out; omega, by simp [World.setCell]; omega, e4.other _ _ (by simp; omega)⟩
  · have HE : Hid (rr = ([], false)) := HRR.out.symm.trans (by rw [cutR, if_neg hin])
    by_cases h0 : k < 0
    · clear hin
      go_enter Try.func11, Try.ntmps11
      go_wp2_with fail
      refine bodyPost_ret (v := .tuple #[.agg #[.slice none 0 0], .bool false]) (by simp [results, Try.results11, go_sem]) rfl ?_
      rw [HE.out]
      exact ⟨none, 0, rfl, .inl ⟨rfl, rfl⟩, Nat.le_refl _, M1.out.low⟩
    · have h1 : (xs.length : Int) < k := by omega
      clear hin
      go_enter Try.func11, Try.ntmps11
      go_wp2_with fail
      refine bodyPost_ret (v := .tuple #[.agg #[.slice none 0 0], .bool false]) (by simp [results, Try.results11, go_sem]) rfl ?_
      rw [HE.out]
      exact ⟨none, 0, rfl, .inl ⟨rfl, rfl⟩, Nat.le_refl _, M1.out.low⟩
end Go.Proofs.Ytplcdcfhfaghiaa
/- AcP: Acts that are done one by one: plain. -/
namespace Go.Proofs.Ytplcdcfhfaghiaa
set_option maxRecDepth 100000
open Go.RowKit

def txA (fs : List FM) (n : ByteArray) : ByteArray := ((fileOf fs n).map fun f => f.text).getD ⟨#[]⟩
def hasA (fs : List FM) (n : ByteArray) : Bool := (fileOf fs n).isSome
theorem fileV_own (fs : List FM) (n : ByteArray) : fileV fs n = .tuple #[.string (txA fs n), .bool (hasA fs n)] := by
  unfold fileV txA hasA fileOf
  cases fs.find? (fun f => decide (f.name = n)) <;> rfl
theorem doAs_le (fs : List FM) (xs : List AM) : (doAs fs xs).2 ≤ xs.length := by
  induction xs generalizing fs with
  | nil => exact Nat.le_refl _
  | cons x xs ih =>
    unfold doAs
    cases doA fs x with
    | none => exact Nat.zero_le _
    | some o => exact Nat.succ_le_succ (ih o)
theorem doAs_zero {fs : List FM} {xs : List AM} (h : (doAs fs xs).2 = 0) : (doAs fs xs).1 = fs := by
  cases xs with
  | nil => rfl
  | cons x xs =>
    unfold doAs at h ⊢
    cases e : doA fs x with
    | none => rfl
    | some o => rw [e] at h; simp at h
theorem Ran.here {fs o : List FM} {xs : List AM} {k : Nat} (h : Ran fs xs k o) (e : (doAs fs xs).2 = k) : (doAs fs xs).1 = o := by
  unfold Ran at h
  rw [h] at e ⊢
  exact doAs_zero (by dsimp only at e; omega)
theorem Ran.next {fs o : List FM} {xs : List AM} {k : Nat} (h : Ran fs xs k o) (e : k < (doAs fs xs).2) (hk : k < xs.length) : ∃ o', doA o xs[k] = some o' := by
  cases c : doA o xs[k] with
  | none => rw [h.stop hk c] at e; dsimp only at e; omega
  | some o' => exact ⟨o', rfl⟩
theorem fileOf_mem {fs : List FM} (h : UpN fs) {f : FM} (hf : f ∈ fs) : fileOf fs f.name = some f := by
  cases e : fileOf fs f.name with
  | none => exact absurd rfl (fileOf_none e f hf)
  | some f' =>
    obtain ⟨h1, h2⟩ := fileOf_some e
    rw [h.name h1 hf h2]
theorem doA_out {o o' : List FM} {x : AM} (h : doA o x = some o') : outA o x = some o' := by
  unfold doA at h
  split at h
  · rw [Option.filter_eq_some_iff] at h
    exact h.1
  · cases h
/-- What is added stands behind. -/
theorem doA_added {o o' : List FM} {x : AM} (h : doA o x = some o') (h1 : x.kind = 1) : hasA o' x.name = true ∧ txA o' x.name = txA o x.name ++ x.text := by
  have hu := (doA_ok h).up
  have e := doA_out h
  unfold outA at e
  rw [if_pos h1] at e
  cases e
  have hm := fileOf_mem hu (mem_putF.2 (.inl rfl))
  dsimp only at hm
  unfold hasA txA
  rw [hm]
  refine ⟨rfl, ?_⟩
  cases fileOf o x.name <;> rfl
theorem doA_dropped {o o' : List FM} {x : AM} (h : doA o x = some o') (h4 : x.kind = 4) : hasA o' x.name = false := by
  have e := doA_out h
  unfold outA at e
  rw [if_neg (by omega)] at e
  have hx : o' = withoutF x.name o := by
    cases c : fileOf o x.name with
    | none => rw [c] at e; cases e
    | some f => rw [c] at e; simp only [h4] at e; simpa using e.symm
  subst hx
  unfold hasA
  cases c : fileOf (withoutF x.name o) x.name with
  | none => rfl
  | some f =>
    obtain ⟨k1, k2⟩ := fileOf_some c
    exact absurd k2 (mem_withoutF.1 k1).2
end Go.Proofs.Ytplcdcfhfaghiaa
/- KeepC: Numbers of what is left, and disks that are the same. -/
namespace Go.Proofs.Ytplcdcfhfaghiaa
set_option maxRecDepth 100000
open Go.RowKit
attribute [local go_sem ↓] Go.wp_at_zero Go.wp_at_succ

def LeftsPost (w : World) (e : Ending) (w' : World) : Prop :=
  ∃ va c ll, e = .returned (.slice va 6 c) ∧ List.length (α := Int) ll = 6 ∧ CRow w' va (ll.map fun x => .int .i64 x) ∧ Below w.heap.size w w'
set_option maxHeartbeats 1000000 in
theorem sameDisk_same (a b : Option Addr) (fs : List FM) (ca cb : Nat) (w : World) (ha : FRow w a fs) (hb' : FRow w b fs) (hl : fs.length ≤ 1048576) :
    Calls Try.prog 8 #[.agg #[.slice a fs.length ca], .agg #[.slice b fs.length cb]] w fun e w' => e = .returned (.bool true) ∧ Below w.heap.size w w' := by
  have m0 : Mem w w [] [] := ⟨by simp, by simp, Below.refl _ _⟩
  have m1 := (m0.box #[.slice a fs.length ca] 26).box #[.slice b fs.length cb] 26
  simp only [World.size_alloc] at m1
  have M1 : Shut (Mem w ((w.alloc (.cells #[.slice a fs.length ca] 26)).alloc (.cells #[.slice b fs.length cb] 26)) [(w.heap.size + 1, [.slice b fs.length cb]), (w.heap.size, [.slice a fs.length ca])] []) := ⟨m1⟩
  have HA : Hid (FRow w a fs) := ha
  have HB' : Hid (FRow w b fs) := hb'
  clear ha hb' m0 m1
  go_enter Try.func8, Try.ntmps8
  go_wp2_with fail
  go_loopw [5] (fun i wr => ∃ (k : Nat), i = .int .i64 k ∧ k ≤ fs.length ∧ Shut (Mem w wr [(w.heap.size + 1, [.slice b fs.length cb]), (w.heap.size, [.slice a fs.length ca])] [])) (fun i _ => fs.length - (intOf i).toNat)
  case atStart => exact ⟨0, rfl, Nat.zero_le _, M1⟩
  case round =>
    clear M1
    obtain ⟨k, rfl, hk, hm⟩ := hrel
    have x0 := hm.out.cell1
    have y0 := hm.out.cell0
    by_cases hlt : k < fs.length
    · obtain ⟨b1, o1, rfl, l1, c1⟩ := FRow.at (HA.out.stays hm.out.low) (by omega)
      obtain ⟨b2, o2, rfl, l2, c2⟩ := FRow.at (HB'.out.stays hm.out.low) (by omega)
      obtain ⟨p0, p1, p2⟩ := c1 k hlt
      obtain ⟨q0, q1, q2⟩ := c2 k hlt
      obtain ⟨f, hfe⟩ : ∃ f, f = fs[k] := ⟨_, rfl⟩
      rw [← hfe] at p0 p1 p2 q0 q1 q2
      have k0 : (0 : Int) ≤ (k : Int) := by omega
      have k1 : (k : Int) < (fs.length : Int) := by omega
      have HMN : ∀ q, Shut (Mem w (wr.drewN q) [(w.heap.size + 1, [.slice (some ⟨b2, o2, none⟩) fs.length cb]), (w.heap.size, [.slice (some ⟨b1, o1, none⟩) fs.length ca])] []) := fun q => ⟨hm.out.below ⟨rfl, rfl, rfl, Nat.le_refl _, fun _ _ => rfl⟩⟩
      clear hfe c1 c2
      go_wp2_with fail
      go_quiet (fail)
      go_wp2_with fail
      go_roundw
      case rel => exact ⟨k + 1, by go_num, by omega, HMN _⟩
      case measure => simp [intOf]; omega
    · have e : k = fs.length := by omega
      subst e
      have HB : Hid (Below w.heap.size w wr) := hm.out.low
      go_wp2_with fail
      go_ret
      exact ⟨rfl, HB.out⟩
end Go.Proofs.Ytplcdcfhfaghiaa
/- DiskO: A disk that came in: the row of its files. -/
namespace Go.Proofs.Ytplcdcfhfaghiaa
set_option maxRecDepth 100000
open Go.RowKit Go.Deep Go.ChangeShapes Go.WideShapes

theorem cellsStr : Try.prog.cellsOf 9 = 1 := by kernel_rfl
theorem cellsInt : Try.prog.cellsOf 3 = 1 := by kernel_rfl
end Go.Proofs.Ytplcdcfhfaghiaa
/- ActO: Rows of numbers and of acts that came in. -/
namespace Go.Proofs.Ytplcdcfhfaghiaa
set_option maxRecDepth 100000
open Go.RowKit Go.Deep Go.ChangeShapes Go.WideShapes

/-- A row out of its elements. -/
theorem rows_of {α : Type} [Inhabited α] {en : α → List Value} {sz : Nat} (hsz : ∀ x, (en x).length = sz) (hp0 : 0 < sz) {W : World} {ad : Addr} {len : Nat} {Pr : α → Prop}
    (each : ∀ i, i < len → ∃ f : α, (∀ r v, (en f)[r]? = some v → W.cell? (ad.add (i * sz + r)) = some v) ∧ Pr f) : ∃ xs : List α, xs.length = len ∧ CRow W (some ad) (xs.flatMap en) ∧ ∀ f ∈ xs, Pr f := by
  obtain ⟨F, hF⟩ := choose_lt each
  have hlen : ((List.range len).map F).length = len := by simp
  have hget : ∀ j (hj : j < ((List.range len).map F).length), ((List.range len).map F)[j] = F j := by intro j hj; simp
  refine ⟨(List.range len).map F, hlen, ?_, ?_⟩
  · intro hp
    rw [flat_len hsz, hlen] at hp
    have hl0 : 0 < len := Nat.pos_of_ne_zero fun e => by rw [e] at hp; simp at hp
    have h00 : ∃ v, (en (F 0))[0]? = some v := by
      have : 0 < (en (F 0)).length := by rw [hsz]; exact hp0
      exact ⟨_, List.getElem?_eq_getElem this⟩
    obtain ⟨v0, hv0⟩ := h00
    have c0 := (hF 0 hl0).1 0 v0 hv0
    have hs : ad.spot = none := by
      have := World.cell?_spot c0
      simpa [Addr.add] using this
    obtain ⟨b, off, spot⟩ := ad
    simp only at hs
    subst hs
    have hadd : ∀ i, (⟨b, off, none⟩ : Addr).add i = ⟨b, off + i, none⟩ := by intro i; cases i <;> simp [Addr.add]
    refine ⟨b, off, rfl, ?_, fun i v hv => ?_⟩
    · by_cases hb : b < W.heap.size
      · exact hb
      · unfold World.cell? at c0
        rw [hadd, Array.getElem?_eq_none (by simpa using hb)] at c0
        simp at c0
    · have hi : i < (((List.range len).map F).flatMap en).length := (List.getElem?_eq_some_iff.1 hv).1
      rw [flat_len hsz, hlen] at hi
      have hq : i / sz < len := Nat.div_lt_of_lt_mul (by rwa [Nat.mul_comm] at hi)
      have hr := Nat.mod_lt i hp0
      have ei : i = i / sz * sz + i % sz := by rw [Nat.mul_comm]; exact (Nat.div_add_mod i sz).symm
      have hj : i / sz < ((List.range len).map F).length := by rw [hlen]; exact hq
      have l1 := flat_get hsz ((List.range len).map F) (i / sz) hj (i % sz) hr
      rw [hget _ hj, ← ei] at l1
      have := (hF (i / sz) hq).1 (i % sz) v (by rw [← l1]; exact hv)
      rw [← ei, hadd] at this
      exact this
  · intro f hf
    obtain ⟨j, hj, rfl⟩ := List.mem_map.1 hf
    exact (hF j (by simpa using hj)).2
theorem ics_flat (xs : List Int) : ics xs = xs.flatMap fun x => [.int .i64 x] := by
  unfold ics
  induction xs with
  | nil => rfl
  | cons x xs ih => simp [ih]
set_option maxRecDepth 100000 in
theorem open_intS {H : Type} {enc : TypeId × Value → H} {W : World} {r : Reach} {b0 base : Nat} {spare : Nat → Bool} {held : Bool} {v : Value} {d : DataW H} {p : List MemPlace}
    (hv : Value.okWide Try.prog W r b0 28 v) (h : DataW.Trod enc Try.prog W base spare held 28 v d p) : ∃ a xs cap, v = .slice a (List.length (α := Int) xs) cap ∧ CRow W a (ics xs) ∧ xs.length ≤ 9223372036854775807 := by
  obtain ⟨va, vl, vc, rfl⟩ := okWide_slice Try.underlying28 hv
  obtain ⟨fuel, h⟩ := h
  rcases open_slice Try.underlying28 h with ⟨e, _⟩ | ⟨ad, len, cap, m, n, D, Pl, e, hb, hl, hm, hmm, _, hx⟩
  · simp only [Value.cells, List.cons.injEq, and_true, Value.slice.injEq] at e
    obtain ⟨rfl, rfl, rfl⟩ := e
    exact ⟨none, [], 0, rfl, fun h => by simp [ics] at h, by simp⟩
  · have hlm : len ≤ m := by rw [hmm]; split <;> omega
    have each : ∀ i, i < len → ∃ f : Int, (∀ r v, ([.int .i64 f] : List Value)[r]? = some v → W.cell? (ad.add (i * 1 + r)) = some v) ∧ True := by
      intro i hi
      obtain ⟨cs', h1, h2⟩ := hx i (by omega)
      rw [cellsInt] at h1
      obtain ⟨_, hlen, hcell⟩ := World.cells?_some h1
      obtain ⟨q, e2, _, z2⟩ := DataW.trod_int Try.underlying3 h2
      have c0 := hcell 0 (by omega)
      rw [add_add] at c0
      subst e2
      refine ⟨q, fun r v hv => ?_, trivial⟩
      match r, hv with
      | 0, hv => simp at hv; subst hv; simpa using c0
    obtain ⟨xs, hxl, hrow, _⟩ := rows_of (en := fun x => [.int .i64 x]) (fun _ => rfl) (by decide) each
    rw [← ics_flat] at hrow
    simp only [Value.cells, List.cons.injEq, and_true, Value.slice.injEq] at e
    obtain ⟨rfl, rfl, rfl⟩ := e
    exact ⟨some ad, xs, vc, by rw [hxl], hrow, by rw [hxl]; unfold maxLen at hm; omega⟩
/-- An act's four fields. -/
def ActFit (f : AM) : Prop := f.name.size ≤ 9223372036854775807 ∧ f.text.size ≤ 9223372036854775807 ∧ f.dst.size ≤ 9223372036854775807 ∧ -9223372036854775808 ≤ f.kind ∧ f.kind ≤ 9223372036854775807
end Go.Proofs.Ytplcdcfhfaghiaa
