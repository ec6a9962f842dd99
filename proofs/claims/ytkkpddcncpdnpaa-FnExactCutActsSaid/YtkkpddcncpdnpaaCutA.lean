/- Acts that are cut by a loss of power: the model's walk and the program's own. -/
import Derived.Test.YtkkpddcncpdnpaaLawActs
namespace Go.Proofs.Ytkkpddcncpdnpaa
open Go.RowKit
attribute [local go_sem ↓] Go.wp_at_zero Go.wp_at_succ

/-- What CutActs answers. -/
noncomputable def cutR (fs : List FM) (xs : List AM) (k : Int) (left : List Int) : List FM × Bool :=
  if 0 ≤ k ∧ k ≤ (xs.length : Int) then (if ((doAs fs (xs.take k.toNat)).2 : Int) < k then ([], false) else (lostD (doAs fs (xs.take k.toNat)).1 left, dOkB (doAs fs (xs.take k.toNat)).1)) else ([], false)
def SB (w0 w : World) (q : Nat) (v : Value) (L : List (Nat × List Value)) (R : List (Option Addr × List Value × Nat × Nat)) : Prop := w.cell? ⟨q, 0, none⟩ = some v ∧ Shut (Mem w0 w L R)
theorem SB.below {w0 w w' : World} {q : Nat} {v : Value} {L : List (Nat × List Value)} {R : List (Option Addr × List Value × Nat × Nat)} (h : SB w0 w q v L R) (hb : Below w.heap.size w w') : SB w0 w' q v L R := ⟨(hb.cell (p := ⟨q, 0, none⟩) (cell_lt h.1)).trans h.1, ⟨h.2.out.below hb⟩⟩
theorem SB.alloc {w0 w : World} {q : Nat} {v : Value} {L : List (Nat × List Value)} {R : List (Option Addr × List Value × Nat × Nat)} (h : SB w0 w q v L R) (o : Obj) : SB w0 (w.alloc o) q v L R := h.below ((Below.refl _ _).alloc (Nat.le_refl _) o)
theorem SB.drew {w0 w : World} {q : Nat} {v : Value} {L : List (Nat × List Value)} {R : List (Option Addr × List Value × Nat × Nat)} (h : SB w0 w q v L R) : SB w0 w.drew q v L R := ⟨h.1, ⟨h.2.out.drew⟩⟩
theorem SB.set {w0 w : World} {q : Nat} {v : Value} {L : List (Nat × List Value)} {R : List (Option Addr × List Value × Nat × Nat)} {a : Addr} (h : SB w0 w q v L R) (u : Value) (h0 : w0.heap.size ≤ a.block) (h1 : a.block ≠ q) (hL : ∀ p ∈ L, p.1 ≠ a.block) (hR : ∀ r ∈ R, a.block < r.2.2.1 ∨ r.2.2.2 ≤ a.block) : SB w0 (w.setCell a u) q v L R :=
  ⟨(World.cell?_of_block (Below.heap_setCell w a u q (fun e => h1 e.symm))).trans h.1, ⟨h.2.out.setNew a u h0 hL hR⟩⟩
theorem SB.low {w0 w : World} {q : Nat} {v : Value} {L : List (Nat × List Value)} {R : List (Option Addr × List Value × Nat × Nat)} (h : SB w0 w q v L R) : Below w0.heap.size w0 w := h.2.out.low
theorem SB.wc {w0 w : World} {q g : Nat} {v : Value} {L : List (Nat × List Value)} {R : List (Option Addr × List Value × Nat × Nat)} {X : List Value} (h : SB w0 w q v L R) (hg : WCells w0 g X) : WCells w g X := hg.below h.low hg.1
theorem AR.take {w0 w : World} {c : Option Addr} {xs : List AM} {k : Nat} (h : ARow w0 c xs) (hb : Below w0.heap.size w0 w) (hk : k ≤ xs.length) : ARow w c (xs.take k) := by
  have h' := h.stays hb
  intro hp
  rw [acs_len] at hp
  obtain ⟨b, off, e, hl, hc⟩ := h' (by rw [acs_len]; simp at hp; omega)
  refine ⟨b, off, e, hl, fun i v hv => hc i v ?_⟩
  have : acs xs = acs (xs.take k) ++ acs (xs.drop k) := by unfold acs; rw [← List.flatMap_append, List.take_append_drop]
  rw [this, List.getElem?_append_left (List.getElem?_eq_some_iff.1 hv).1]
  exact hv
theorem specDoActsR {fs : List FM} {ys : List AM} {q : List FM × Nat} (hq : doAs fs ys = q) (g : Nat) (c : Option Addr) (capx : Nat) (w : World) {cap n : Nat} (hg : WCells w g (fcs fs)) (hf : FFit fs) (hl : fs.length ≤ 1048576) (hx : ARow w c ys) (hxg : AGood ys) (hxl : ys.length ≤ 1048576) (hn : ys.length = n) :
    Calls Try.prog 24 #[.agg #[.slice (some ⟨g, 0, none⟩) fs.length cap], .slice c n capx] w fun e w' => DiskPost q.1 (.int .i64 (q.2 : Nat)) w e w' := by
  subst hq hn; exact specDoActs g c fs ys cap capx w hg hf hl hx hxg hxl
theorem implDoActsR {fs : List FM} {ys : List AM} {q : List FM × Nat} (hq : doAs fs ys = q) (a c : Option Addr) (capx : Nat) (w : World) {cap n : Nat} (hr : FRow w a fs) (hf : FFit fs) (hl : fs.length ≤ 1048576) (hfs : fsum fs ≤ 1048576) (hx : ARow w c ys) (hxg : AGood ys) (hxl : ys.length ≤ 1048576) (hn : ys.length = n) :
    Calls Try.prog 26 #[.agg #[.slice a fs.length cap], .slice c n capx] w fun e w' => DiskPost q.1 (.int .i64 (q.2 : Nat)) w e w' := by
  subst hq hn; exact implDoActs a c fs ys cap capx w hr hf hl hfs hx hxg hxl
set_option maxHeartbeats 2000000 in
set_option maxRecDepth 100000 in
theorem specCutActs (g : Nat) (c d : Option Addr) (fs : List FM) (xs : List AM) (k : Int) (left : List Int) (cap capl : Nat) (w : World) (hg : WCells w g (fcs fs)) (hf : FFit fs) (hl : fs.length ≤ 1048576) (_hfs : fsum fs ≤ 1048576) (hx : ARow w c xs) (hxg : AGood xs) (hxl : xs.length ≤ 1048576) (hd : IRow w d left) (hll : left.length ≤ 1048576) :
    Calls Try.prog 34 #[.agg #[.slice (some ⟨g, 0, none⟩) fs.length cap], .slice c xs.length xs.length, .int .i64 k, .slice d left.length capl] w fun e w' => DiskPost (cutR fs xs k left).1 (.bool (cutR fs xs k left).2) w e w' := by
  have HF : Hid (FFit fs) := hf
  have HG : Hid (WCells w g (fcs fs)) := hg
  have HXR : Hid (ARow w c xs) := hx
  have HXT : Hid (AGood (xs.take k.toNat)) := fun x hx => hxg x (List.mem_of_mem_take hx)
  have HL : Hid (IRow w d left) := hd
  have m0 : Mem w w [] [] := ⟨by simp, by simp, Below.refl _ _⟩
  have m1 := (m0.box #[.slice (some ⟨g, 0, none⟩) fs.length cap] 29).box #[.slice none 0 0] 29
  simp only [World.size_alloc] at m1
  have M1 : Shut (Mem w ((w.alloc (.cells #[.slice (some ⟨g, 0, none⟩) fs.length cap] 29)).alloc (.cells #[.slice none 0 0] 29)) [(w.heap.size + 1, [.slice none 0 0]), (w.heap.size, [.slice (some ⟨g, 0, none⟩) fs.length cap])] []) := ⟨m1⟩
  generalize hrr : cutR fs xs k left = rr
  have HRR : Hid (cutR fs xs k left = rr) := hrr
  clear hf hg hx hxg hd m0 m1 hrr
  by_cases hin : 0 ≤ k ∧ k ≤ (xs.length : Int)
  · generalize hq : doAs fs (xs.take k.toNat) = q
    have HQ : Hid (doAs fs (xs.take k.toNat) = q) := hq
    have hqf := fit_cur HF.out hl (doAs_or fs (xs.take k.toNat))
    rw [hq] at hqf
    have HQF : Hid (FFit q.1) := hqf.1
    have hql := hqf.2
    have HRA : Hid (rr = if ((q.2 : Nat) : Int) < k then ([], false) else (lostD q.1 left, dOkB q.1)) := by rw [← HRR.out, cutR, if_pos hin, hq]; exact (rfl : _ = _)
    obtain ⟨h0, h1⟩ := hin
    have hwl : k.toNat ≤ xs.length := by omega
    have htl : (xs.take k.toNat).length = k.toNat := by simp; omega
    clear hq hqf HRR
    have hb : decide ((0 : Int) ≤ k ∧ k ≤ (xs.length : Int)) = true := decide_eq_true ⟨h0, h1⟩
    go_enter Try.func34, Try.ntmps34
    go_wp2_with fail
    refine (l01In_is k 0 (xs.length : Int) _ true hb).mono ?_
    intro e w1' hw1
    obtain ⟨rfl, hww⟩ := hw1
    rw [hww]
    clear hww w1' hb
    go_upto_region 3 with fail
    generalize hW : (w.alloc (.cells #[.slice (some ⟨g, 0, none⟩) fs.length cap] 29)).alloc (.cells #[.slice none 0 0] 29) = w1 at *
    clear hW
    have s1 : w.heap.size + 1 < w1.heap.size := M1.out.lt0
    have hS0 : Shut (SB w w1 w.heap.size (.slice (some ⟨g, 0, none⟩) fs.length cap) [(w.heap.size + 1, [.slice none 0 0]), (w.heap.size, [.slice (some ⟨g, 0, none⟩) fs.length cap])] []) := ⟨⟨M1.out.cell1, M1⟩⟩
    clear M1
    go_cut [10, 11] from 12 to 34 (fun u10 u11 wx => ∃ (nb lo hi vc : Nat) (va : Option Addr), u10 = .pointer (some ⟨nb, 0, none⟩) ∧ u11 = .int .i64 (q.2 : Nat) ∧ q.1.length ≤ vc ∧ (w1.heap.size ≤ lo ∧ w1.heap.size ≤ nb ∧ nb < wx.heap.size ∧ hi ≤ wx.heap.size) ∧ Shut (Mem w wx ((nb, [.slice va q.1.length vc]) :: [(w.heap.size + 1, [.slice none 0 0]), (w.heap.size, [.slice (some ⟨g, 0, none⟩) fs.length cap])]) ((va, fcs q.1, lo, hi) :: [])))
    case first =>
      go_region_held3 (fun w' => w'.cell? ⟨w.heap.size, 0, none⟩ = some (.slice (some ⟨g, 0, none⟩) fs.length cap) ∧ Shut (Mem w w' [(w.heap.size + 1, [.slice none 0 0]), (w.heap.size, [.slice (some ⟨g, 0, none⟩) fs.length cap])] []))
        (first | assumption | (exact SB.alloc hSC.out _) | (exact SB.below (by assumption) hbC) | (exact SB.alloc (by assumption) _) | (exact hS0.out.drew) | (exact SB.set hSC.out _ (by first | omega | (simp; done) | (simp; omega) | (unfold World.setCell; simp; done) | (unfold World.setCell; simp; omega)) (by first | omega | (simp; done) | (simp; omega) | (unfold World.setCell; simp; done) | (unfold World.setCell; simp; omega)) (by first | omega | (simp; done) | (simp; omega) | (unfold World.setCell; simp; done) | (unfold World.setCell; simp; omega)) (by simp)))
        (first
          | (go_at_call 24; refine (specDoActsR (q := q) HQ.out g c xs.length _ (SB.wc (by assumption) HG.out) HF.out hl (AR.take HXR.out (SB.low (by assumption)) hwl) HXT.out (by simp; omega) htl).mono ?_; rintro e wC ⟨va, vc, rfl, hfC, hcC, hbC⟩; have hSC : Shut (SB w wC w.heap.size (.slice (some ⟨g, 0, none⟩) fs.length cap) [(w.heap.size + 1, [.slice none 0 0]), (w.heap.size, [.slice (some ⟨g, 0, none⟩) fs.length cap])] []) := ⟨SB.below (by assumption) hbC⟩; have hsC := hbC.size; (try simp at hsC); (try (have hZ : Shut (WCells wC w1.heap.size [.slice none 0 0]) := ⟨WCells.grow (w := w1.drew.alloc (.cells #[.slice none 0 0] 29)) (wcells_new w1.drew #[.slice none 0 0] 29) hbC⟩; obtain ⟨z0, z1⟩ := hZ.out.2 0 _ rfl))))
      all_goals
        go_wp2_with fail
        go_meet
      all_goals
        first
          | exact ⟨wC.heap.size, _, wC.heap.size, vc, va, rfl, rfl, hcC, ⟨(by first | omega | (simp; done) | (simp; omega) | (unfold World.setCell; simp; done) | (unfold World.setCell; simp; omega)), (by first | omega | (simp; done) | (simp; omega) | (unfold World.setCell; simp; done) | (unfold World.setCell; simp; omega)), (by first | omega | (simp; done) | (simp; omega) | (unfold World.setCell; simp; done) | (unfold World.setCell; simp; omega)), (by first | omega | (simp; done) | (simp; omega) | (unfold World.setCell; simp; done) | (unfold World.setCell; simp; omega))⟩, ⟨(hSC.out.2.out.row hfC).box #[.slice va q.1.length vc] 29⟩⟩
          | exact ⟨w1.heap.size, _, wC.heap.size, vc, va, rfl, rfl, hcC, ⟨(by first | omega | (simp; done) | (simp; omega) | (unfold World.setCell; simp; done) | (unfold World.setCell; simp; omega)), (by first | omega | (simp; done) | (simp; omega) | (unfold World.setCell; simp; done) | (unfold World.setCell; simp; omega)), (by have := hZ.out.1; first | omega | (simp; omega) | (unfold World.setCell; simp; omega)), (by first | omega | (simp; done) | (simp; omega) | (unfold World.setCell; simp; done) | (unfold World.setCell; simp; omega))⟩, ⟨(hSC.out.2.out.row hfC).setBox hZ.out _ (by first | omega | (simp; done) | (simp; omega) | (unfold World.setCell; simp; done) | (unfold World.setCell; simp; omega)) (by first | omega | (simp; done) | (simp; omega) | (unfold World.setCell; simp; done) | (unfold World.setCell; simp; omega)) (by first | omega | (simp; done) | (simp; omega) | (unfold World.setCell; simp; done) | (unfold World.setCell; simp; omega))⟩⟩
    case rest =>
      obtain ⟨nb, lo, hi, vc, va, rfl, rfl, hvc, ⟨o1, o2, o3, o4⟩, M4⟩ := hcut
      have x4 := M4.out.cell0
      obtain ⟨y4, y5⟩ := (M4.out.cells _ (List.mem_cons_of_mem _ (List.mem_cons_self ..))).2 0 _ rfl
      have s4 := M4.out.lt1
      clear hS0
      by_cases hlt : ((q.2 : Nat) : Int) < k
      · have HE : Hid (rr = ([], false)) := HRA.out.trans (if_pos hlt)
        go_wp2_with fail
        refine bodyPost_ret (v := .tuple #[.agg #[.slice none 0 0], .bool false]) (by simp [results, Try.results34, go_sem, y4]) rfl ?_
        rw [HE.out]
        exact ⟨none, 0, rfl, .inl ⟨rfl, rfl⟩, Nat.le_refl _, M4.out.low.setCell (by simp) _⟩
      · have HE : Hid (rr = (lostD q.1 left, dOkB q.1)) := HRA.out.trans (if_neg hlt)
        go_wp2_with fail
        refine (specLoseDisk va d q.1 left vc capl _ M4.out.at0.crow HQF.out hql (HL.out.stays M4.out.low) hll).mono ?_
        intro e w7 hp7
        obtain ⟨v7, c7, rfl, hf7, hc7, hb7⟩ := hp7.made
        generalize lostD q.1 left = os at *
        generalize dOkB q.1 = D at *
        have M7 := M4.out.below hb7
        obtain ⟨z0, z1⟩ := (M7.cells _ (List.mem_cons_of_mem _ (List.mem_cons_self ..))).2 0 _ rfl
        have HB7 : Hid (Below w.heap.size w w7) := M7.low
        have HF7 : Shut (FRw w7 v7 (fcs os) wc.heap.size w7.heap.size) := ⟨hf7⟩
        have HW7 : Hid (w.heap.size ≤ wc.heap.size) := M4.out.low.size
        clear hb7 M7 M4 hf7 x4 y4 y5
        go_wp2_with fail
        refine bodyPost_ret (v := .tuple #[.agg #[.slice v7 os.length c7], .bool D]) (by simp [results, Try.results34, go_sem, z0]) rfl ?_
        rw [HE.out]
        refine ⟨v7, c7, rfl, ?_, hc7, HB7.out.setCell (by simp) _⟩
        rcases HF7.out with h | ⟨g', e1, e2, e3, e4⟩
        · exact .inl h
        · exact .inr ⟨g', e1, by have := HW7.out; omega, by simp [World.setCell]; omega, e4.other _ _ (by simp; omega)⟩
  · have HE : Hid (rr = ([], false)) := HRR.out.symm.trans (by rw [cutR, if_neg hin])
    have hb : decide ((0 : Int) ≤ k ∧ k ≤ (xs.length : Int)) = false := decide_eq_false hin
    clear hin
    go_enter Try.func34, Try.ntmps34
    go_wp2_with fail
    refine (l01In_is k 0 (xs.length : Int) _ false hb).mono ?_
    intro e w1' hw1
    obtain ⟨rfl, hww⟩ := hw1
    rw [hww]
    clear hww w1' hb
    go_wp2_with fail
    refine bodyPost_ret (v := .tuple #[.agg #[.slice none 0 0], .bool false]) (by simp [results, Try.results34, go_sem]) rfl ?_
    rw [HE.out]
    exact ⟨none, 0, rfl, .inl ⟨rfl, rfl⟩, Nat.le_refl _, M1.out.low⟩
set_option maxHeartbeats 2000000 in
set_option maxRecDepth 100000 in
theorem implCutActs (g : Nat) (c d : Option Addr) (fs : List FM) (xs : List AM) (k : Int) (left : List Int) (cap capl : Nat) (w : World) (hg : WCells w g (fcs fs)) (hf : FFit fs) (hl : fs.length ≤ 1048576) (hfs : fsum fs ≤ 1048576) (hx : ARow w c xs) (hxg : AGood xs) (hxl : xs.length ≤ 1048576) (hd : IRow w d left) (hll : left.length ≤ 1048576) :
    Calls Try.prog 35 #[.agg #[.slice (some ⟨g, 0, none⟩) fs.length cap], .slice c xs.length xs.length, .int .i64 k, .slice d left.length capl] w fun e w' => DiskPost (cutR fs xs k left).1 (.bool (cutR fs xs k left).2) w e w' := by
  have HF : Hid (FFit fs) := hf
  have HG : Hid (WCells w g (fcs fs)) := hg
  have HXR : Hid (ARow w c xs) := hx
  have HXT : Hid (AGood (xs.take k.toNat)) := fun x hx => hxg x (List.mem_of_mem_take hx)
  have HL : Hid (IRow w d left) := hd
  have m0 : Mem w w [] [] := ⟨by simp, by simp, Below.refl _ _⟩
  have m1 := (m0.box #[.slice (some ⟨g, 0, none⟩) fs.length cap] 29).box #[.slice none 0 0] 29
  simp only [World.size_alloc] at m1
  have M1 : Shut (Mem w ((w.alloc (.cells #[.slice (some ⟨g, 0, none⟩) fs.length cap] 29)).alloc (.cells #[.slice none 0 0] 29)) [(w.heap.size + 1, [.slice none 0 0]), (w.heap.size, [.slice (some ⟨g, 0, none⟩) fs.length cap])] []) := ⟨m1⟩
  generalize hrr : cutR fs xs k left = rr
  have HRR : Hid (cutR fs xs k left = rr) := hrr
  clear hf hg hx hxg hd m0 m1 hrr
  by_cases hin : 0 ≤ k ∧ k ≤ (xs.length : Int)
  · generalize hq : doAs fs (xs.take k.toNat) = q
    have HQ : Hid (doAs fs (xs.take k.toNat) = q) := hq
    have hqf := fit_cur HF.out hl (doAs_or fs (xs.take k.toNat))
    rw [hq] at hqf
    have HQF : Hid (FFit q.1) := hqf.1
    have hql := hqf.2
    have HRA : Hid (rr = if ((q.2 : Nat) : Int) < k then ([], false) else (lostD q.1 left, dOkB q.1)) := by rw [← HRR.out, cutR, if_pos hin, hq]; exact (rfl : _ = _)
    obtain ⟨h0, h1⟩ := hin
    have hwl : k.toNat ≤ xs.length := by omega
    have htl : (xs.take k.toNat).length = k.toNat := by simp; omega
    clear hq hqf HRR
    have h0' : ¬ k < 0 := by omega
    have h1' : ¬ (xs.length : Int) < k := by omega
    go_enter Try.func35, Try.ntmps35
    go_upto_region 3 with fail
    generalize hW : (w.alloc (.cells #[.slice (some ⟨g, 0, none⟩) fs.length cap] 29)).alloc (.cells #[.slice none 0 0] 29) = w1 at *
    clear hW
    have s1 : w.heap.size + 1 < w1.heap.size := M1.out.lt0
    have hS0 : Shut (SB w w1 w.heap.size (.slice (some ⟨g, 0, none⟩) fs.length cap) [(w.heap.size + 1, [.slice none 0 0]), (w.heap.size, [.slice (some ⟨g, 0, none⟩) fs.length cap])] []) := ⟨⟨M1.out.cell1, M1⟩⟩
    clear M1
    go_cut [10, 11] from 12 to 34 (fun u10 u11 wx => ∃ (nb lo hi vc : Nat) (va : Option Addr), u10 = .pointer (some ⟨nb, 0, none⟩) ∧ u11 = .int .i64 (q.2 : Nat) ∧ q.1.length ≤ vc ∧ (w1.heap.size ≤ lo ∧ w1.heap.size ≤ nb ∧ nb < wx.heap.size ∧ hi ≤ wx.heap.size) ∧ Shut (Mem w wx ((nb, [.slice va q.1.length vc]) :: [(w.heap.size + 1, [.slice none 0 0]), (w.heap.size, [.slice (some ⟨g, 0, none⟩) fs.length cap])]) ((va, fcs q.1, lo, hi) :: [])))
    case first =>
      go_region_held3 (fun w' => w'.cell? ⟨w.heap.size, 0, none⟩ = some (.slice (some ⟨g, 0, none⟩) fs.length cap) ∧ Shut (Mem w w' [(w.heap.size + 1, [.slice none 0 0]), (w.heap.size, [.slice (some ⟨g, 0, none⟩) fs.length cap])] []))
        (first | assumption | (exact SB.alloc hSC.out _) | (exact SB.below (by assumption) hbC) | (exact SB.alloc (by assumption) _) | (exact hS0.out.drew) | (exact SB.set hSC.out _ (by first | omega | (simp; done) | (simp; omega) | (unfold World.setCell; simp; done) | (unfold World.setCell; simp; omega)) (by first | omega | (simp; done) | (simp; omega) | (unfold World.setCell; simp; done) | (unfold World.setCell; simp; omega)) (by first | omega | (simp; done) | (simp; omega) | (unfold World.setCell; simp; done) | (unfold World.setCell; simp; omega)) (by simp)))
        (first
          | (go_at_call 26; refine (implDoActsR (q := q) HQ.out (some ⟨g, 0, none⟩) c xs.length _ (SB.wc (by assumption) HG.out).crow HF.out hl hfs (AR.take HXR.out (SB.low (by assumption)) hwl) HXT.out (by simp; omega) htl).mono ?_; rintro e wC ⟨va, vc, rfl, hfC, hcC, hbC⟩; have hSC : Shut (SB w wC w.heap.size (.slice (some ⟨g, 0, none⟩) fs.length cap) [(w.heap.size + 1, [.slice none 0 0]), (w.heap.size, [.slice (some ⟨g, 0, none⟩) fs.length cap])] []) := ⟨SB.below (by assumption) hbC⟩; have hsC := hbC.size; (try simp at hsC); (try (have hZ : Shut (WCells wC w1.heap.size [.slice none 0 0]) := ⟨WCells.grow (w := w1.drew.alloc (.cells #[.slice none 0 0] 29)) (wcells_new w1.drew #[.slice none 0 0] 29) hbC⟩; obtain ⟨z0, z1⟩ := hZ.out.2 0 _ rfl))))
      all_goals
        go_wp2_with fail
        go_meet
      all_goals
        first
          | exact ⟨wC.heap.size, _, wC.heap.size, vc, va, rfl, rfl, hcC, ⟨(by first | omega | (simp; done) | (simp; omega) | (unfold World.setCell; simp; done) | (unfold World.setCell; simp; omega)), (by first | omega | (simp; done) | (simp; omega) | (unfold World.setCell; simp; done) | (unfold World.setCell; simp; omega)), (by first | omega | (simp; done) | (simp; omega) | (unfold World.setCell; simp; done) | (unfold World.setCell; simp; omega)), (by first | omega | (simp; done) | (simp; omega) | (unfold World.setCell; simp; done) | (unfold World.setCell; simp; omega))⟩, ⟨(hSC.out.2.out.row hfC).box #[.slice va q.1.length vc] 29⟩⟩
          | exact ⟨w1.heap.size, _, wC.heap.size, vc, va, rfl, rfl, hcC, ⟨(by first | omega | (simp; done) | (simp; omega) | (unfold World.setCell; simp; done) | (unfold World.setCell; simp; omega)), (by first | omega | (simp; done) | (simp; omega) | (unfold World.setCell; simp; done) | (unfold World.setCell; simp; omega)), (by have := hZ.out.1; first | omega | (simp; omega) | (unfold World.setCell; simp; omega)), (by first | omega | (simp; done) | (simp; omega) | (unfold World.setCell; simp; done) | (unfold World.setCell; simp; omega))⟩, ⟨(hSC.out.2.out.row hfC).setBox hZ.out _ (by first | omega | (simp; done) | (simp; omega) | (unfold World.setCell; simp; done) | (unfold World.setCell; simp; omega)) (by first | omega | (simp; done) | (simp; omega) | (unfold World.setCell; simp; done) | (unfold World.setCell; simp; omega)) (by first | omega | (simp; done) | (simp; omega) | (unfold World.setCell; simp; done) | (unfold World.setCell; simp; omega))⟩⟩
    case rest =>
      obtain ⟨nb, lo, hi, vc, va, rfl, rfl, hvc, ⟨o1, o2, o3, o4⟩, M4⟩ := hcut
      have x4 := M4.out.cell0
      obtain ⟨y4, y5⟩ := (M4.out.cells _ (List.mem_cons_of_mem _ (List.mem_cons_self ..))).2 0 _ rfl
      have s4 := M4.out.lt1
      clear hS0
      by_cases hlt : ((q.2 : Nat) : Int) < k
      · have HE : Hid (rr = ([], false)) := HRA.out.trans (if_pos hlt)
        go_wp2_with fail
        refine bodyPost_ret (v := .tuple #[.agg #[.slice none 0 0], .bool false]) (by simp [results, Try.results35, go_sem, y4]) rfl ?_
        rw [HE.out]
        exact ⟨none, 0, rfl, .inl ⟨rfl, rfl⟩, Nat.le_refl _, M4.out.low.setCell (by simp) _⟩
      · have HE : Hid (rr = (lostD q.1 left, dOkB q.1)) := HRA.out.trans (if_neg hlt)
        go_wp2_with fail
        refine (implLoseDisk va d q.1 left vc capl _ M4.out.at0.crow HQF.out hql (HL.out.stays M4.out.low) hll).mono ?_
        intro e w7 hp7
        obtain ⟨v7, c7, rfl, hf7, hc7, hb7⟩ := hp7.made
        generalize lostD q.1 left = os at *
        generalize dOkB q.1 = D at *
        have M7 := M4.out.below hb7
        obtain ⟨z0, z1⟩ := (M7.cells _ (List.mem_cons_of_mem _ (List.mem_cons_self ..))).2 0 _ rfl
        have HB7 : Hid (Below w.heap.size w w7) := M7.low
        have HF7 : Shut (FRw w7 v7 (fcs os) wc.heap.size w7.heap.size) := ⟨hf7⟩
        have HW7 : Hid (w.heap.size ≤ wc.heap.size) := M4.out.low.size
        clear hb7 M7 M4 hf7 x4 y4 y5
        go_wp2_with fail
        refine bodyPost_ret (v := .tuple #[.agg #[.slice v7 os.length c7], .bool D]) (by simp [results, Try.results35, go_sem, z0]) rfl ?_
        rw [HE.out]
        refine ⟨v7, c7, rfl, ?_, hc7, HB7.out.setCell (by simp) _⟩
        rcases HF7.out with h | ⟨g', e1, e2, e3, e4⟩
        · exact .inl h
        · exact .inr ⟨g', e1, by have := HW7.out; omega, by simp [World.setCell]; omega, e4.other _ _ (by simp; omega)⟩
  · have HE : Hid (rr = ([], false)) := HRR.out.symm.trans (by rw [cutR, if_neg hin])
    by_cases h0 : k < 0
    · clear hin
      go_enter Try.func35, Try.ntmps35
      go_wp2_with fail
      refine bodyPost_ret (v := .tuple #[.agg #[.slice none 0 0], .bool false]) (by simp [results, Try.results35, go_sem]) rfl ?_
      rw [HE.out]
      exact ⟨none, 0, rfl, .inl ⟨rfl, rfl⟩, Nat.le_refl _, M1.out.low⟩
    · have h1 : (xs.length : Int) < k := by omega
      clear hin
      go_enter Try.func35, Try.ntmps35
      go_wp2_with fail
      refine bodyPost_ret (v := .tuple #[.agg #[.slice none 0 0], .bool false]) (by simp [results, Try.results35, go_sem]) rfl ?_
      rw [HE.out]
      exact ⟨none, 0, rfl, .inl ⟨rfl, rfl⟩, Nat.le_refl _, M1.out.low⟩
end Go.Proofs.Ytkkpddcncpdnpaa
