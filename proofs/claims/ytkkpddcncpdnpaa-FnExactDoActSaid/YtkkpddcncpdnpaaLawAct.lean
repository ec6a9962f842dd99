/- The law on DoAct: its walk. -/
import Derived.Test.YtkkpddcncpdnpaaLawActs
import Derived.Test.YtkkpddcncpdnpaaActO
namespace Go.Proofs.Ytkkpddcncpdnpaa
open Go.RowKit
attribute [local go_sem ↓] Go.wp_at_zero Go.wp_at_succ

theorem SA.low {w0 w : World} {q : Nat} {v : Value} {b o1 o2 o3 o4 : Nat} {x : AM} {L : List (Nat × List Value)} {R : List (Option Addr × List Value × Nat × Nat)} (h : SA w0 w q v b o1 o2 o3 o4 x L R) : Below w0.heap.size w0 w := h.2.2.2.2.2.out.low
theorem SA.mem {w0 w : World} {q : Nat} {v : Value} {b o1 o2 o3 o4 : Nat} {x : AM} {L : List (Nat × List Value)} {R : List (Option Addr × List Value × Nat × Nat)} (h : SA w0 w q v b o1 o2 o3 o4 x L R) : Mem w0 w L R := h.2.2.2.2.2.out
theorem SA.rowAt {w0 w : World} {q : Nat} {v : Value} {b o1 o2 o3 o4 : Nat} {x : AM} {L : List (Nat × List Value)} {R : List (Option Addr × List Value × Nat × Nat)} {va : Option Addr} {X : List Value} {lo hi : Nat} (h : SA w0 w q v b o1 o2 o3 o4 x L ((va, X, lo, hi) :: R)) : CRow w va X := h.mem.at0.crow
theorem implDoActR {fs : List FM} {x : AM} {r : Option (List FM)} (hr' : doA fs x = r) (a : Option Addr) (cap : Nat) (w : World) (hr : FRow w a fs) (hf : FFit fs) (hl : fs.length ≤ 1048576) (hfs : fsum fs ≤ 1048576) (hxg : AGood [x]) :
    Calls Try.prog 20 #[.agg #[.slice a fs.length cap], av x] w fun e w' => DiskPost (r.getD []) (.bool r.isSome) w e w' := hr' ▸ implDoAct a fs x cap w hr hf hl hfs hxg
theorem LMem.x1 {w0 w : World} {L : List (Nat × List Value)} {R : List (Option Addr × List Value × Nat × Nat)} {p q : Nat} {u v : Value} {r0 : Option Addr × List Value × Nat × Nat} {va : Option Addr} {X : List Value} {lo hi : Nat} (h : w.cell? ⟨p, 0, none⟩ = some u ∧ w.cell? ⟨q, 0, none⟩ = some v ∧ Shut (Mem w0 w L (r0 :: (va, X, lo, hi) :: R))) : CRow w va X := h.2.2.out.at1.crow
set_option maxHeartbeats 2000000 in
set_option maxRecDepth 100000 in
theorem lawDoAct (a : Option Addr) (fs : List FM) (cap : Nat) (x : AM) (w : World) (hr : FRow w a fs) (hf : FFit fs) (haf : ActFit x) :
    Calls Try.prog 5 #[.agg #[.slice a fs.length cap], av x] w fun e w' => e = .returned (.bool true) ∧ Below w.heap.size w w' := by
  have HR : Hid (FRow w a fs) := hr
  have HF : Hid (FFit fs) := hf
  obtain ⟨f1, f2, f3, f4, f5⟩ := haf
  have m0 : Mem w w [] [] := ⟨by simp, by simp, Below.refl _ _⟩
  have m1 := (m0.box #[.slice a fs.length cap] 24).box #[.int .i64 x.kind, .string x.name, .string x.text, .string x.to] 37
  simp only [World.size_alloc] at m1
  have M0 : Shut (Mem w ((w.alloc (.cells #[.slice a fs.length cap] 24)).alloc (.cells #[.int .i64 x.kind, .string x.name, .string x.text, .string x.to] 37)) [(w.heap.size + 1, [.int .i64 x.kind, .string x.name, .string x.text, .string x.to]), (w.heap.size, [.slice a fs.length cap])] []) := ⟨m1⟩
  generalize hre : doA fs x = r
  have HRE : Hid (doA fs x = r) := hre
  clear hr hf m0 m1 hre
  go_enter Try.func5, Try.ntmps5
  go_wp2_with fail
  refine (szDisk_any a fs cap 1048576 _ (HR.out.stays M0.out.low) HF.out (by omega) (by omega)).mono ?_
  rintro e wz ⟨rz, rfl, r1, r2, hb1⟩
  have Mz : Shut (Mem w wz [(w.heap.size + 1, [.int .i64 x.kind, .string x.name, .string x.text, .string x.to]), (w.heap.size, [.slice a fs.length cap])] []) := ⟨M0.out.below hb1⟩
  have az := Mz.out.cells _ (List.mem_cons_self ..)
  obtain ⟨a0, _⟩ := az.2 0 _ rfl
  obtain ⟨a1, _⟩ := az.2 1 _ rfl
  obtain ⟨a2, _⟩ := az.2 2 _ rfl
  obtain ⟨a3, _⟩ := az.2 3 _ rfl
  clear hb1 M0 az
  by_cases hneg : rz < 0
  · clear a0 a1 a2 a3
    go_wp2_with fail
    go_ret
    exact ⟨rfl, Mz.out.low⟩
  have hl : fs.length ≤ 1048576 := by have := r2 (by omega); omega
  have HFS : Hid (fsum fs ≤ 1048576) := (by have := r2 (by omega); omega : fsum fs ≤ 1048576)
  have hr1 : rz ≤ 1048576 := by have := r2 (by omega); omega
  clear r2
  go_wp2_with fail
  refine (szAct_any x rz _ (by omega) hr1 f1 f2 f3).mono ?_
  rintro e w1 ⟨ry, rfl, ry1, ry2, hb1⟩
  have M1 : Shut (Mem w w1 [(w.heap.size + 1, [.int .i64 x.kind, .string x.name, .string x.text, .string x.to]), (w.heap.size, [.slice a fs.length cap])] []) := ⟨Mz.out.below hb1⟩
  have az := M1.out.cells _ (List.mem_cons_self ..)
  clear a0 a1 a2 a3
  obtain ⟨a0, _⟩ := az.2 0 _ rfl
  obtain ⟨a1, _⟩ := az.2 1 _ rfl
  obtain ⟨a2, _⟩ := az.2 2 _ rfl
  obtain ⟨a3, _⟩ := az.2 3 _ rfl
  have x1 := M1.out.cell1
  clear hb1 Mz az
  by_cases hneg' : ry < 0
  · clear a0 a1 a2 a3 x1
    go_wp2_with fail
    go_ret
    exact ⟨rfl, M1.out.low⟩
  have hxt : x.text.size ≤ 1048576 := by have := ry2 (by omega); omega
  have HXG : Hid (AGood [x]) := fun y hy => by simp at hy; subst hy; exact ⟨f1, hxt, f3⟩
  have s1 : w.heap.size + 1 < w1.heap.size := M1.out.lt0
  have HS0 : Shut (SA w w1 w.heap.size (.slice a fs.length cap) (w.heap.size + 1) 0 1 2 3 x [(w.heap.size + 1, [.int .i64 x.kind, .string x.name, .string x.text, .string x.to]), (w.heap.size, [.slice a fs.length cap])] []) := ⟨⟨x1, a0, a1, a2, a3, M1⟩⟩
  have hlen : (r.getD []).length ≤ 31 := by
    cases hr : r with
    | none => simp
    | some o => have := (doA_ok (HRE.out.trans hr)).1; simp; omega
  clear ry2 M1
  have hS0 : Shut (SA w w1 w.heap.size (.slice a fs.length cap) (w.heap.size + 1) 0 1 2 3 x [(w.heap.size + 1, [.int .i64 x.kind, .string x.name, .string x.text, .string x.to]), (w.heap.size, [.slice a fs.length cap])] []) := HS0
  go_upto_region 8 with fail
  go_cut [6, 7] from 26 to 33 (fun u6 u7 wx => ∃ (nb lo hi vc : Nat) (va : Option Addr), u6 = .pointer (some ⟨nb, 0, none⟩) ∧ u7 = .bool r.isSome ∧ (r.getD []).length ≤ vc ∧ (w1.heap.size ≤ lo ∧ w1.heap.size ≤ nb ∧ nb < wx.heap.size ∧ hi ≤ wx.heap.size ∧ (nb < lo ∨ hi ≤ nb)) ∧ Shut (Mem w wx ((nb, [.slice va (r.getD []).length vc]) :: [(w.heap.size + 1, [.int .i64 x.kind, .string x.name, .string x.text, .string x.to]), (w.heap.size, [.slice a fs.length cap])]) ((va, fcs (r.getD []), lo, hi) :: [])))
  case first =>
    go_region_held3 (fun w' => w'.cell? ⟨w.heap.size, 0, none⟩ = some (.slice a fs.length cap) ∧ w'.cell? ⟨w.heap.size + 1, 0, none⟩ = some (.int .i64 x.kind) ∧ w'.cell? ⟨w.heap.size + 1, 1, none⟩ = some (.string x.name) ∧ w'.cell? ⟨w.heap.size + 1, 2, none⟩ = some (.string x.text) ∧ w'.cell? ⟨w.heap.size + 1, 3, none⟩ = some (.string x.to) ∧ Shut (Mem w w' [(w.heap.size + 1, [.int .i64 x.kind, .string x.name, .string x.text, .string x.to]), (w.heap.size, [.slice a fs.length cap])] []))
      (first | assumption | (exact SA.alloc (x := x) hSC.out _) | (exact SA.below (x := x) (by assumption) hbC) | (exact SA.below (x := x) (by assumption) hbB) | (exact SA.below (x := x) (by assumption) hbA) | (exact SA.alloc (x := x) (by assumption) _) | (exact hS0.out.drew) | (exact SA.set (x := x) hSC.out _ (by first | omega | (simp; done) | (simp; omega) | (unfold World.setCell; simp; done) | (unfold World.setCell; simp; omega)) (by first | omega | (simp; done) | (simp; omega) | (unfold World.setCell; simp; done) | (unfold World.setCell; simp; omega)) (by first | omega | (simp; done) | (simp; omega) | (unfold World.setCell; simp; done) | (unfold World.setCell; simp; omega)) (by first | omega | (simp; done) | (simp; omega) | (unfold World.setCell; simp; done) | (unfold World.setCell; simp; omega)) (by first | omega | (simp; done) | (simp; omega) | (unfold World.setCell; simp; done) | (unfold World.setCell; simp; omega))))
      (first
        | (go_at_call 12; refine (toDisk_any a fs cap _ (HR.out.stays (SA.low (x := x) (by assumption))) HF.out hl).mono ?_; rintro e wA ⟨gA, rfl, hgA, hwA, hbA⟩; have hSA : Shut (SA w wA w.heap.size (.slice a fs.length cap) (w.heap.size + 1) 0 1 2 3 x [(w.heap.size + 1, [.int .i64 x.kind, .string x.name, .string x.text, .string x.to]), (w.heap.size, [.slice a fs.length cap])] []) := ⟨SA.below (x := x) (by assumption) hbA⟩; have hWA : Shut (WCells wA gA (fcs fs)) := ⟨hwA⟩; have hsA := hbA.size; (try simp at hsA); (try (have hZ : Shut (WCells wA w1.heap.size [.slice none 0 0]) := ⟨WCells.grow (w := w1.drew.alloc (.cells #[.slice none 0 0] 29)) (wcells_new w1.drew #[.slice none 0 0] 29) hbA⟩)); clear hwA hgA)
        | (go_at_call 19; refine (toAct_any x _).mono ?_; rintro e wB ⟨rfl, hbB⟩; have hSB : Shut (SA w wB w.heap.size (.slice a fs.length cap) (w.heap.size + 1) 0 1 2 3 x [(w.heap.size + 1, [.int .i64 x.kind, .string x.name, .string x.text, .string x.to]), (w.heap.size, [.slice a fs.length cap])] []) := ⟨SA.below (x := x) (by assumption) hbB⟩; have hWB : Shut (WCells wB gA (fcs fs)) := (by first | exact ⟨hWA.out.grow hbB⟩ | exact ⟨(hWA.out.alloc _).grow hbB⟩); have hsB := hbB.size; (try simp at hsB); (first | (have hZ : Shut (WCells wB wA.heap.size [.slice none 0 0]) := ⟨WCells.grow (w := wA.alloc (.cells #[.slice none 0 0] 29)) (wcells_new wA #[.slice none 0 0] 29) hbB⟩) | (replace hZ : Shut (WCells wB w1.heap.size [.slice none 0 0]) := ⟨hZ.out.grow hbB⟩) | skip))
        | (go_at_call 18; refine (specDoActR (r := r) HRE.out (some ⟨gA, 0, none⟩) fs.length _ (by first | exact hWB.out.crow | exact (hWB.out.alloc _).crow) HF.out hl f1 hxt f3).mono ?_; rintro e wC ⟨va, vc, rfl, hfC, hcC, hbC⟩; have hSC : Shut (SA w wC w.heap.size (.slice a fs.length cap) (w.heap.size + 1) 0 1 2 3 x [(w.heap.size + 1, [.int .i64 x.kind, .string x.name, .string x.text, .string x.to]), (w.heap.size, [.slice a fs.length cap])] []) := ⟨SA.below (x := x) (by assumption) hbC⟩; have hsC := hbC.size; (try simp at hsC); (first | (have hZ : Shut (WCells wC wB.heap.size [.slice none 0 0]) := ⟨WCells.grow (w := wB.alloc (.cells #[.slice none 0 0] 29)) (wcells_new wB #[.slice none 0 0] 29) hbC⟩) | (replace hZ : Shut (WCells wC w1.heap.size [.slice none 0 0]) := ⟨hZ.out.grow hbC⟩) | (replace hZ : Shut (WCells wC wA.heap.size [.slice none 0 0]) := ⟨hZ.out.grow hbC⟩) | skip); (try (obtain ⟨z0, z1⟩ := hZ.out.2 0 _ rfl))))
    all_goals
      go_wp2_with fail
      go_meet
    all_goals
      first
        | exact ⟨wC.heap.size, _, wC.heap.size, vc, va, rfl, rfl, hcC, ⟨(by first | omega | (simp; done) | (simp; omega) | (unfold World.setCell; simp; done) | (unfold World.setCell; simp; omega)), (by first | omega | (simp; done) | (simp; omega) | (unfold World.setCell; simp; done) | (unfold World.setCell; simp; omega)), (by first | omega | (simp; done) | (simp; omega) | (unfold World.setCell; simp; done) | (unfold World.setCell; simp; omega)), (by first | omega | (simp; done) | (simp; omega) | (unfold World.setCell; simp; done) | (unfold World.setCell; simp; omega)), .inr (Nat.le_refl _)⟩, ⟨(hSC.out.mem.row hfC).box #[.slice va (r.getD []).length vc] 29⟩⟩
        | exact ⟨w1.heap.size, _, wC.heap.size, vc, va, rfl, rfl, hcC, ⟨(by first | omega | (simp; done) | (simp; omega) | (unfold World.setCell; simp; done) | (unfold World.setCell; simp; omega)), (by first | omega | (simp; done) | (simp; omega) | (unfold World.setCell; simp; done) | (unfold World.setCell; simp; omega)), (by have := hZ.out.1; first | omega | (simp; omega) | (unfold World.setCell; simp; omega)), (by first | omega | (simp; done) | (simp; omega) | (unfold World.setCell; simp; done) | (unfold World.setCell; simp; omega)), .inl (by first | omega | (simp; done) | (simp; omega) | (unfold World.setCell; simp; done) | (unfold World.setCell; simp; omega))⟩, ⟨(hSC.out.mem.row hfC).setBox hZ.out _ (by first | omega | (simp; done) | (simp; omega) | (unfold World.setCell; simp; done) | (unfold World.setCell; simp; omega)) (by first | omega | (simp; done) | (simp; omega) | (unfold World.setCell; simp; done) | (unfold World.setCell; simp; omega)) (by first | omega | (simp; done) | (simp; omega) | (unfold World.setCell; simp; done) | (unfold World.setCell; simp; omega))⟩⟩
        | exact ⟨wA.heap.size, _, wC.heap.size, vc, va, rfl, rfl, hcC, ⟨(by first | omega | (simp; done) | (simp; omega) | (unfold World.setCell; simp; done) | (unfold World.setCell; simp; omega)), (by first | omega | (simp; done) | (simp; omega) | (unfold World.setCell; simp; done) | (unfold World.setCell; simp; omega)), (by have := hZ.out.1; first | omega | (simp; omega) | (unfold World.setCell; simp; omega)), (by first | omega | (simp; done) | (simp; omega) | (unfold World.setCell; simp; done) | (unfold World.setCell; simp; omega)), .inl (by first | omega | (simp; done) | (simp; omega) | (unfold World.setCell; simp; done) | (unfold World.setCell; simp; omega))⟩, ⟨(hSC.out.mem.row hfC).setBox hZ.out _ (by first | omega | (simp; done) | (simp; omega) | (unfold World.setCell; simp; done) | (unfold World.setCell; simp; omega)) (by first | omega | (simp; done) | (simp; omega) | (unfold World.setCell; simp; done) | (unfold World.setCell; simp; omega)) (by first | omega | (simp; done) | (simp; omega) | (unfold World.setCell; simp; done) | (unfold World.setCell; simp; omega))⟩⟩
        | exact ⟨wB.heap.size, _, wC.heap.size, vc, va, rfl, rfl, hcC, ⟨(by first | omega | (simp; done) | (simp; omega) | (unfold World.setCell; simp; done) | (unfold World.setCell; simp; omega)), (by first | omega | (simp; done) | (simp; omega) | (unfold World.setCell; simp; done) | (unfold World.setCell; simp; omega)), (by have := hZ.out.1; first | omega | (simp; omega) | (unfold World.setCell; simp; omega)), (by first | omega | (simp; done) | (simp; omega) | (unfold World.setCell; simp; done) | (unfold World.setCell; simp; omega)), .inl (by first | omega | (simp; done) | (simp; omega) | (unfold World.setCell; simp; done) | (unfold World.setCell; simp; omega))⟩, ⟨(hSC.out.mem.row hfC).setBox hZ.out _ (by first | omega | (simp; done) | (simp; omega) | (unfold World.setCell; simp; done) | (unfold World.setCell; simp; omega)) (by first | omega | (simp; done) | (simp; omega) | (unfold World.setCell; simp; done) | (unfold World.setCell; simp; omega)) (by first | omega | (simp; done) | (simp; omega) | (unfold World.setCell; simp; done) | (unfold World.setCell; simp; omega))⟩⟩
  case rest =>
    obtain ⟨nb4, lo4, hi4, c4, v4, rfl, rfl, hc4, ⟨o1, o2, o3, o4, o5⟩, M4⟩ := hcut
    obtain ⟨w4, hw4⟩ : ∃ w4 : World, w4 = wc := ⟨_, rfl⟩
    subst hw4
    have x4 := M4.out.cell2
    clear HS0 hS0 a0 a1 a2 a3 x1
    go_wp2_with fail
    refine (toDisk_any a fs cap _ (HR.out.stays M4.out.low) HF.out hl).mono ?_
    rintro e w5 ⟨g5, rfl, hg5, hw5, hb5⟩
    have s5 := hb5.size
    have u5 := hw5.1
    have M5 : Shut (Mem w (w5.alloc (.cells #[.slice (some ⟨g5, 0, none⟩) fs.length fs.length] 29)) [(w5.heap.size, [.slice (some ⟨g5, 0, none⟩) fs.length fs.length]), (nb4, [.slice v4 (r.getD []).length c4]), (w.heap.size + 1, [.int .i64 x.kind, .string x.name, .string x.text, .string x.to]), (w.heap.size, [.slice a fs.length cap])] [(some ⟨g5, 0, none⟩, fcs fs, g5, g5 + 1), (v4, fcs (r.getD []), lo4, hi4)]) := ⟨((M4.out.below hb5).row (FRw.of_wcells hw5 (Nat.le_refl _) (Nat.lt_succ_self _))).box #[.slice (some ⟨g5, 0, none⟩) fs.length fs.length] 29⟩
    clear hb5 hw5 M4 x4
    go_upto_region 10 with fail
    generalize hW6 : w5.alloc (.cells #[.slice (some ⟨g5, 0, none⟩) fs.length fs.length] 29) = w6 at *
    have s6 : w5.heap.size < w6.heap.size := by rw [← hW6]; simp
    clear hW6
    have az := M5.out.cells _ (List.mem_cons_of_mem _ (List.mem_cons_of_mem _ (List.mem_cons_self ..)))
    have HS0 : Shut (SA w w6 w5.heap.size (.slice (some ⟨g5, 0, none⟩) fs.length fs.length) (w.heap.size + 1) 0 1 2 3 x [(w5.heap.size, [.slice (some ⟨g5, 0, none⟩) fs.length fs.length]), (nb4, [.slice v4 (r.getD []).length c4]), (w.heap.size + 1, [.int .i64 x.kind, .string x.name, .string x.text, .string x.to]), (w.heap.size, [.slice a fs.length cap])] [(some ⟨g5, 0, none⟩, fcs fs, g5, g5 + 1), (v4, fcs (r.getD []), lo4, hi4)]) := ⟨⟨M5.out.cell0, (az.2 0 _ rfl).1, (az.2 1 _ rfl).1, (az.2 2 _ rfl).1, (az.2 3 _ rfl).1, M5⟩⟩
    clear az M5
    have hS0 : Shut (SA w w6 w5.heap.size (.slice (some ⟨g5, 0, none⟩) fs.length fs.length) (w.heap.size + 1) 0 1 2 3 x [(w5.heap.size, [.slice (some ⟨g5, 0, none⟩) fs.length fs.length]), (nb4, [.slice v4 (r.getD []).length c4]), (w.heap.size + 1, [.int .i64 x.kind, .string x.name, .string x.text, .string x.to]), (w.heap.size, [.slice a fs.length cap])] [(some ⟨g5, 0, none⟩, fcs fs, g5, g5 + 1), (v4, fcs (r.getD []), lo4, hi4)]) := HS0
    go_cut [9, 10] from 36 to 42 (fun u9 u10 wx => ∃ (nb lo hi vc : Nat) (va : Option Addr), u9 = .pointer (some ⟨nb, 0, none⟩) ∧ u10 = .bool r.isSome ∧ (r.getD []).length ≤ vc ∧ (w6.heap.size ≤ lo ∧ w6.heap.size ≤ nb ∧ nb < wx.heap.size ∧ hi ≤ wx.heap.size ∧ (nb < lo ∨ hi ≤ nb)) ∧ Shut (Mem w wx ((nb, [.slice va (r.getD []).length vc]) :: [(w5.heap.size, [.slice (some ⟨g5, 0, none⟩) fs.length fs.length]), (nb4, [.slice v4 (r.getD []).length c4]), (w.heap.size + 1, [.int .i64 x.kind, .string x.name, .string x.text, .string x.to]), (w.heap.size, [.slice a fs.length cap])]) ((va, fcs (r.getD []), lo, hi) :: [(some ⟨g5, 0, none⟩, fcs fs, g5, g5 + 1), (v4, fcs (r.getD []), lo4, hi4)])))
    case first =>
      go_region_held3 (fun w' => w'.cell? ⟨w5.heap.size, 0, none⟩ = some (.slice (some ⟨g5, 0, none⟩) fs.length fs.length) ∧ w'.cell? ⟨w.heap.size + 1, 0, none⟩ = some (.int .i64 x.kind) ∧ w'.cell? ⟨w.heap.size + 1, 1, none⟩ = some (.string x.name) ∧ w'.cell? ⟨w.heap.size + 1, 2, none⟩ = some (.string x.text) ∧ w'.cell? ⟨w.heap.size + 1, 3, none⟩ = some (.string x.to) ∧ Shut (Mem w w' [(w5.heap.size, [.slice (some ⟨g5, 0, none⟩) fs.length fs.length]), (nb4, [.slice v4 (r.getD []).length c4]), (w.heap.size + 1, [.int .i64 x.kind, .string x.name, .string x.text, .string x.to]), (w.heap.size, [.slice a fs.length cap])] [(some ⟨g5, 0, none⟩, fcs fs, g5, g5 + 1), (v4, fcs (r.getD []), lo4, hi4)]))
        (first | assumption | (exact SA.alloc (x := x) hSC.out _) | (exact SA.below (x := x) (by assumption) hbC) | (exact SA.below (x := x) (by assumption) hbB) | (exact SA.alloc (x := x) (by assumption) _) | (exact hS0.out.drew) | (exact SA.set (x := x) hSC.out _ (by first | omega | (simp; done) | (simp; omega) | (unfold World.setCell; simp; done) | (unfold World.setCell; simp; omega)) (by first | omega | (simp; done) | (simp; omega) | (unfold World.setCell; simp; done) | (unfold World.setCell; simp; omega)) (by first | omega | (simp; done) | (simp; omega) | (unfold World.setCell; simp; done) | (unfold World.setCell; simp; omega)) (by first | omega | (simp; done) | (simp; omega) | (unfold World.setCell; simp; done) | (unfold World.setCell; simp; omega)) (by first | omega | (simp; done) | (simp; omega) | (unfold World.setCell; simp; done) | (unfold World.setCell; simp; omega))))
        (first
          | (go_at_call 19; refine (toAct_any x _).mono ?_; rintro e wB ⟨rfl, hbB⟩; have hSB : Shut (SA w wB w5.heap.size (.slice (some ⟨g5, 0, none⟩) fs.length fs.length) (w.heap.size + 1) 0 1 2 3 x [(w5.heap.size, [.slice (some ⟨g5, 0, none⟩) fs.length fs.length]), (nb4, [.slice v4 (r.getD []).length c4]), (w.heap.size + 1, [.int .i64 x.kind, .string x.name, .string x.text, .string x.to]), (w.heap.size, [.slice a fs.length cap])] [(some ⟨g5, 0, none⟩, fcs fs, g5, g5 + 1), (v4, fcs (r.getD []), lo4, hi4)]) := ⟨SA.below (x := x) (by assumption) hbB⟩; have hsB := hbB.size; (try simp at hsB); (try (have hZ : Shut (WCells wB w6.heap.size [.slice none 0 0]) := ⟨WCells.grow (w := w6.drew.alloc (.cells #[.slice none 0 0] 29)) (wcells_new w6.drew #[.slice none 0 0] 29) hbB⟩)))
          | (go_at_call 20; refine (implDoActR (r := r) HRE.out (some ⟨g5, 0, none⟩) fs.length _ (SA.rowAt (x := x) (by assumption)) HF.out hl HFS.out HXG.out).mono ?_; rintro e wC ⟨va, vc, rfl, hfC, hcC, hbC⟩; have hSC : Shut (SA w wC w5.heap.size (.slice (some ⟨g5, 0, none⟩) fs.length fs.length) (w.heap.size + 1) 0 1 2 3 x [(w5.heap.size, [.slice (some ⟨g5, 0, none⟩) fs.length fs.length]), (nb4, [.slice v4 (r.getD []).length c4]), (w.heap.size + 1, [.int .i64 x.kind, .string x.name, .string x.text, .string x.to]), (w.heap.size, [.slice a fs.length cap])] [(some ⟨g5, 0, none⟩, fcs fs, g5, g5 + 1), (v4, fcs (r.getD []), lo4, hi4)]) := ⟨SA.below (x := x) (by assumption) hbC⟩; have hsC := hbC.size; (try simp at hsC); (first | (have hZ : Shut (WCells wC wB.heap.size [.slice none 0 0]) := ⟨WCells.grow (w := wB.alloc (.cells #[.slice none 0 0] 29)) (wcells_new wB #[.slice none 0 0] 29) hbC⟩) | (replace hZ : Shut (WCells wC w6.heap.size [.slice none 0 0]) := ⟨hZ.out.grow hbC⟩) | skip); (try (obtain ⟨z0, z1⟩ := hZ.out.2 0 _ rfl))))
      all_goals
        go_wp2_with fail
        go_meet
      all_goals
        first
          | exact ⟨wC.heap.size, _, wC.heap.size, vc, va, rfl, rfl, hcC, ⟨(by first | omega | (simp; done) | (simp; omega) | (unfold World.setCell; simp; done) | (unfold World.setCell; simp; omega)), (by first | omega | (simp; done) | (simp; omega) | (unfold World.setCell; simp; done) | (unfold World.setCell; simp; omega)), (by first | omega | (simp; done) | (simp; omega) | (unfold World.setCell; simp; done) | (unfold World.setCell; simp; omega)), (by first | omega | (simp; done) | (simp; omega) | (unfold World.setCell; simp; done) | (unfold World.setCell; simp; omega)), .inr (Nat.le_refl _)⟩, ⟨(hSC.out.mem.row hfC).box #[.slice va (r.getD []).length vc] 29⟩⟩
          | exact ⟨w6.heap.size, _, wC.heap.size, vc, va, rfl, rfl, hcC, ⟨(by first | omega | (simp; done) | (simp; omega) | (unfold World.setCell; simp; done) | (unfold World.setCell; simp; omega)), (by first | omega | (simp; done) | (simp; omega) | (unfold World.setCell; simp; done) | (unfold World.setCell; simp; omega)), (by have := hZ.out.1; first | omega | (simp; omega) | (unfold World.setCell; simp; omega)), (by first | omega | (simp; done) | (simp; omega) | (unfold World.setCell; simp; done) | (unfold World.setCell; simp; omega)), .inl (by first | omega | (simp; done) | (simp; omega) | (unfold World.setCell; simp; done) | (unfold World.setCell; simp; omega))⟩, ⟨(hSC.out.mem.row hfC).setBox hZ.out _ (by first | omega | (simp; done) | (simp; omega) | (unfold World.setCell; simp; done) | (unfold World.setCell; simp; omega)) (by first | omega | (simp; done) | (simp; omega) | (unfold World.setCell; simp; done) | (unfold World.setCell; simp; omega)) (by first | omega | (simp; done) | (simp; omega) | (unfold World.setCell; simp; done) | (unfold World.setCell; simp; omega))⟩⟩
          | exact ⟨wB.heap.size, _, wC.heap.size, vc, va, rfl, rfl, hcC, ⟨(by first | omega | (simp; done) | (simp; omega) | (unfold World.setCell; simp; done) | (unfold World.setCell; simp; omega)), (by first | omega | (simp; done) | (simp; omega) | (unfold World.setCell; simp; done) | (unfold World.setCell; simp; omega)), (by have := hZ.out.1; first | omega | (simp; omega) | (unfold World.setCell; simp; omega)), (by first | omega | (simp; done) | (simp; omega) | (unfold World.setCell; simp; done) | (unfold World.setCell; simp; omega)), .inl (by first | omega | (simp; done) | (simp; omega) | (unfold World.setCell; simp; done) | (unfold World.setCell; simp; omega))⟩, ⟨(hSC.out.mem.row hfC).setBox hZ.out _ (by first | omega | (simp; done) | (simp; omega) | (unfold World.setCell; simp; done) | (unfold World.setCell; simp; omega)) (by first | omega | (simp; done) | (simp; omega) | (unfold World.setCell; simp; done) | (unfold World.setCell; simp; omega)) (by first | omega | (simp; done) | (simp; omega) | (unfold World.setCell; simp; done) | (unfold World.setCell; simp; omega))⟩⟩
    case rest =>
      obtain ⟨nb7, lo7, hi7, c7, v7, rfl, rfl, hc7, ⟨p1, p2, p3, p4, p5⟩, M7⟩ := hcut
      obtain ⟨w7, hw7⟩ : ∃ w7 : World, w7 = wc := ⟨_, rfl⟩
      subst hw7
      have x7 := M7.out.cell0
      have y7 := M7.out.cell2
      clear HS0 hS0
      go_wp2_with fail
      refine (eqDisk_same v7 v4 (r.getD []) c7 c4 _ M7.out.at0.crow M7.out.at2.crow (by omega)).mono ?_
      rintro e w8 ⟨rfl, hb8⟩
      have hM : Shut (Mem w w8 [(nb7, [.slice v7 (r.getD []).length c7]), (w5.heap.size, [.slice (some ⟨g5, 0, none⟩) fs.length fs.length]), (nb4, [.slice v4 (r.getD []).length c4]), (w.heap.size + 1, [.int .i64 x.kind, .string x.name, .string x.text, .string x.to]), (w.heap.size, [.slice a fs.length cap])] [(v7, fcs (r.getD []), lo7, hi7), (some ⟨g5, 0, none⟩, fcs fs, g5, g5 + 1), (v4, fcs (r.getD []), lo4, hi4)]) := ⟨M7.out.below hb8⟩
      have s8 := hb8.size
      have y8 := hM.out.cell1
      have x8 := hM.out.cell4
      clear hb8 M7 x7 y7
      go_wp2_with fail
      go_region_held3 (fun w' => w'.cell? ⟨w5.heap.size, 0, none⟩ = some (.slice (some ⟨g5, 0, none⟩) fs.length fs.length) ∧ w'.cell? ⟨w.heap.size, 0, none⟩ = some (.slice a fs.length cap) ∧ Shut (Mem w w' [(nb7, [.slice v7 (r.getD []).length c7]), (w5.heap.size, [.slice (some ⟨g5, 0, none⟩) fs.length fs.length]), (nb4, [.slice v4 (r.getD []).length c4]), (w.heap.size + 1, [.int .i64 x.kind, .string x.name, .string x.text, .string x.to]), (w.heap.size, [.slice a fs.length cap])] [(v7, fcs (r.getD []), lo7, hi7), (some ⟨g5, 0, none⟩, fcs fs, g5, g5 + 1), (v4, fcs (r.getD []), lo4, hi4)]))
        (first | assumption | (exact ⟨y8, x8, ⟨hM.out.drew⟩⟩) | (exact LMem.keep (by assumption) hbc))
        (first
          | (go_at_call 12; refine (LMem.toDisk (by assumption) HR.out HF.out hl).mono ?_; rintro e w9 ⟨g9, rfl, hg9, hw9, hbc⟩; have h9 : Shut (WCells w9 g9 (fcs fs)) := ⟨hw9⟩; clear hw9)
          | (go_at_call 14; refine (eqDisk_same (some ⟨g5, 0, none⟩) (some ⟨g9, 0, none⟩) fs fs.length fs.length _ (LMem.x1 (by assumption)) h9.out.crow hl).mono ?_; have hbc_0 := hbc; clear hbc; rintro e w10 ⟨rfl, hbc⟩))
      all_goals
        obtain ⟨x10, _, M10⟩ : w10.cell? ⟨w5.heap.size, 0, none⟩ = some (.slice (some ⟨g5, 0, none⟩) fs.length fs.length) ∧ w10.cell? ⟨w.heap.size, 0, none⟩ = some (.slice a fs.length cap) ∧ Shut (Mem w w10 [(nb7, [.slice v7 (r.getD []).length c7]), (w5.heap.size, [.slice (some ⟨g5, 0, none⟩) fs.length fs.length]), (nb4, [.slice v4 (r.getD []).length c4]), (w.heap.size + 1, [.int .i64 x.kind, .string x.name, .string x.text, .string x.to]), (w.heap.size, [.slice a fs.length cap])] [(v7, fcs (r.getD []), lo7, hi7), (some ⟨g5, 0, none⟩, fcs fs, g5, g5 + 1), (v4, fcs (r.getD []), lo4, hi4)]) := by assumption
        have s10 : w8.heap.size ≤ w10.heap.size := by have h1 := hbc_0.size; have h2 := hbc.size; (try simp at h1); omega
        clear hM hbc hbc_0 h9 hg9 y8 x8
        go_wp2_with fail
        refine (markDisk_row (some ⟨g5, 0, none⟩) fs 1 fs.length g5 (g5 + 1) _ M10.out.at1 (by omega) (by omega) (Nat.le_refl _)).mono ?_
        obtain ⟨k13, hk13⟩ : ∃ k, k = 1 + 3 * fs.length := ⟨_, rfl⟩
        rw [← hk13]
        clear hk13
        rintro e w13 ⟨rfl, _, row, hgr, hrow⟩
        have M13 : Shut (Mem w w13 [(nb7, [.slice v7 (r.getD []).length c7]), (nb4, [.slice v4 (r.getD []).length c4]), (w.heap.size + 1, [.int .i64 x.kind, .string x.name, .string x.text, .string x.to]), (w.heap.size, [.slice a fs.length cap])] [(v7, fcs (r.getD []), lo7, hi7), (v4, fcs (r.getD []), lo4, hi4)]) := ⟨((M10.out.less (L' := [(nb7, [.slice v7 (r.getD []).length c7]), (nb4, [.slice v4 (r.getD []).length c4]), (w.heap.size + 1, [.int .i64 x.kind, .string x.name, .string x.text, .string x.to]), (w.heap.size, [.slice a fs.length cap])]) (R' := [(v7, fcs (r.getD []), lo7, hi7), (v4, fcs (r.getD []), lo4, hi4)]) (by simp) (by simp)).grown hgr (fun p hp g e => by have := hrow g e; simp at hp; rcases hp with rfl | rfl | rfl | rfl <;> (simp; omega)) (fun r hr g e => by have := hrow g e; simp at hr; rcases hr with rfl | rfl <;> (simp; omega)) (fun g e => by have := hrow g e; omega))⟩
        have hkn : ¬ ((k13 : Nat) : Int) < 0 := by omega
        have s13 := hgr.size
        have x14 := M13.out.cell0
        have y14 := M13.out.cell1
        clear hgr hrow row M10 x10
        go_wp2_with fail
        refine (eqDisk_same v7 v4 (r.getD []) c7 c4 _ M13.out.at0.crow M13.out.at1.crow (by omega)).mono ?_
        rintro e w15 ⟨rfl, hb15⟩
        have M15 : Shut (Mem w w15 [(nb7, [.slice v7 (r.getD []).length c7]), (nb4, [.slice v4 (r.getD []).length c4]), (w.heap.size + 1, [.int .i64 x.kind, .string x.name, .string x.text, .string x.to]), (w.heap.size, [.slice a fs.length cap])] [(v7, fcs (r.getD []), lo7, hi7), (v4, fcs (r.getD []), lo4, hi4)]) := ⟨M13.out.below hb15⟩
        have x15 := M15.out.cell0
        have s15 := hb15.size
        clear hb15 M13 x14 y14
        go_wp2_with fail
        refine (markDisk_row v7 (r.getD []) 1 c7 lo7 hi7 _ M15.out.at0 (by omega) (by omega) hc7).mono ?_
        obtain ⟨k16, hk16⟩ : ∃ k, k = 1 + 3 * (r.getD []).length := ⟨_, rfl⟩
        rw [← hk16]
        have HK16 : Hid (k16 = 1 + 3 * (r.getD []).length) := hk16
        clear hk16
        rintro e w16 ⟨rfl, hf16, row, hgr, hrow⟩
        have M16 : Shut (Mem w w16 [(nb7, [.slice v7 (r.getD []).length c7]), (nb4, [.slice v4 (r.getD []).length c4]), (w.heap.size + 1, [.int .i64 x.kind, .string x.name, .string x.text, .string x.to]), (w.heap.size, [.slice a fs.length cap])] [(v7, fcs (marksF 1 (r.getD []).length), lo7, hi7), (v4, fcs (r.getD []), lo4, hi4)]) := ⟨((M15.out.less (L' := [(nb7, [.slice v7 (r.getD []).length c7]), (nb4, [.slice v4 (r.getD []).length c4]), (w.heap.size + 1, [.int .i64 x.kind, .string x.name, .string x.text, .string x.to]), (w.heap.size, [.slice a fs.length cap])]) (R' := [(v4, fcs (r.getD []), lo4, hi4)]) (by simp) (by simp)).grown hgr (fun p hp g e => by have := hrow g e; simp at hp; rcases hp with rfl | rfl | rfl | rfl <;> (simp; omega)) (fun r hr g e => by have := hrow g e; simp at hr; subst hr; simp; omega) (fun g e => by have := hrow g e; omega)).row hf16⟩
        have x16 := M16.out.cell0
        have s16 := hgr.size
        clear hgr hrow row M15 x15 hf16
        go_wp2_with fail
        refine (heldDisk_any v7 1 (r.getD []).length c7 _ M16.out.at0.crow (by omega) (by omega)).mono ?_
        rw [← HK16.out]
        rintro e w17 ⟨rfl, hb17⟩
        have M17 : Shut (Mem w w17 [(nb7, [.slice v7 (r.getD []).length c7]), (nb4, [.slice v4 (r.getD []).length c4]), (w.heap.size + 1, [.int .i64 x.kind, .string x.name, .string x.text, .string x.to]), (w.heap.size, [.slice a fs.length cap])] [(v7, fcs (marksF 1 (r.getD []).length), lo7, hi7), (v4, fcs (r.getD []), lo4, hi4)]) := ⟨M16.out.below hb17⟩
        have hkm : ¬ ((k16 : Nat) : Int) < 0 := by omega
        have s17 := hb17.size
        have az := M17.out.cells _ (List.mem_cons_of_mem _ (List.mem_cons_of_mem _ (List.mem_cons_self ..)))
        have x17 := M17.out.cell3
        have HS0 : Shut (SA w w17 w.heap.size (.slice a fs.length cap) (w.heap.size + 1) 0 1 2 3 x [(nb7, [.slice v7 (r.getD []).length c7]), (nb4, [.slice v4 (r.getD []).length c4]), (w.heap.size + 1, [.int .i64 x.kind, .string x.name, .string x.text, .string x.to]), (w.heap.size, [.slice a fs.length cap])] [(v7, fcs (marksF 1 (r.getD []).length), lo7, hi7), (v4, fcs (r.getD []), lo4, hi4)]) := ⟨⟨x17, (az.2 0 _ rfl).1, (az.2 1 _ rfl).1, (az.2 2 _ rfl).1, (az.2 3 _ rfl).1, M17⟩⟩
        clear hb17 M16 x16 az x17 M17
        have hS0 : Shut (SA w w17 w.heap.size (.slice a fs.length cap) (w.heap.size + 1) 0 1 2 3 x [(nb7, [.slice v7 (r.getD []).length c7]), (nb4, [.slice v4 (r.getD []).length c4]), (w.heap.size + 1, [.int .i64 x.kind, .string x.name, .string x.text, .string x.to]), (w.heap.size, [.slice a fs.length cap])] [(v7, fcs (marksF 1 (r.getD []).length), lo7, hi7), (v4, fcs (r.getD []), lo4, hi4)]) := HS0
        go_upto_region 27 with fail
        go_cut [14, 15] from 84 to 91 (fun u14 u15 wx => ∃ (nb lo hi vc : Nat) (va : Option Addr), u14 = .pointer (some ⟨nb, 0, none⟩) ∧ u15 = .bool r.isSome ∧ (r.getD []).length ≤ vc ∧ (w17.heap.size ≤ lo ∧ w17.heap.size ≤ nb ∧ nb < wx.heap.size ∧ hi ≤ wx.heap.size ∧ (nb < lo ∨ hi ≤ nb)) ∧ Shut (Mem w wx ((nb, [.slice va (r.getD []).length vc]) :: [(nb7, [.slice v7 (r.getD []).length c7]), (nb4, [.slice v4 (r.getD []).length c4]), (w.heap.size + 1, [.int .i64 x.kind, .string x.name, .string x.text, .string x.to]), (w.heap.size, [.slice a fs.length cap])]) ((va, fcs (r.getD []), lo, hi) :: [(v7, fcs (marksF 1 (r.getD []).length), lo7, hi7), (v4, fcs (r.getD []), lo4, hi4)])))
        case first =>
          go_region_held3 (fun w' => w'.cell? ⟨w.heap.size, 0, none⟩ = some (.slice a fs.length cap) ∧ w'.cell? ⟨w.heap.size + 1, 0, none⟩ = some (.int .i64 x.kind) ∧ w'.cell? ⟨w.heap.size + 1, 1, none⟩ = some (.string x.name) ∧ w'.cell? ⟨w.heap.size + 1, 2, none⟩ = some (.string x.text) ∧ w'.cell? ⟨w.heap.size + 1, 3, none⟩ = some (.string x.to) ∧ Shut (Mem w w' [(nb7, [.slice v7 (r.getD []).length c7]), (nb4, [.slice v4 (r.getD []).length c4]), (w.heap.size + 1, [.int .i64 x.kind, .string x.name, .string x.text, .string x.to]), (w.heap.size, [.slice a fs.length cap])] [(v7, fcs (marksF 1 (r.getD []).length), lo7, hi7), (v4, fcs (r.getD []), lo4, hi4)]))
            (first | assumption | (exact SA.alloc (x := x) hSC.out _) | (exact SA.below (x := x) (by assumption) hbC) | (exact SA.below (x := x) (by assumption) hbB) | (exact SA.below (x := x) (by assumption) hbA) | (exact SA.alloc (x := x) (by assumption) _) | (exact hS0.out.drew) | (exact SA.set (x := x) hSC.out _ (by first | omega | (simp; done) | (simp; omega) | (unfold World.setCell; simp; done) | (unfold World.setCell; simp; omega)) (by first | omega | (simp; done) | (simp; omega) | (unfold World.setCell; simp; done) | (unfold World.setCell; simp; omega)) (by first | omega | (simp; done) | (simp; omega) | (unfold World.setCell; simp; done) | (unfold World.setCell; simp; omega)) (by first | omega | (simp; done) | (simp; omega) | (unfold World.setCell; simp; done) | (unfold World.setCell; simp; omega)) (by first | omega | (simp; done) | (simp; omega) | (unfold World.setCell; simp; done) | (unfold World.setCell; simp; omega))))
            (first
              | (go_at_call 12; refine (toDisk_any a fs cap _ (HR.out.stays (SA.low (x := x) (by assumption))) HF.out hl).mono ?_; rintro e wA ⟨gA, rfl, hgA, hwA, hbA⟩; have hSA : Shut (SA w wA w.heap.size (.slice a fs.length cap) (w.heap.size + 1) 0 1 2 3 x [(nb7, [.slice v7 (r.getD []).length c7]), (nb4, [.slice v4 (r.getD []).length c4]), (w.heap.size + 1, [.int .i64 x.kind, .string x.name, .string x.text, .string x.to]), (w.heap.size, [.slice a fs.length cap])] [(v7, fcs (marksF 1 (r.getD []).length), lo7, hi7), (v4, fcs (r.getD []), lo4, hi4)]) := ⟨SA.below (x := x) (by assumption) hbA⟩; have hWA : Shut (WCells wA gA (fcs fs)) := ⟨hwA⟩; have hsA := hbA.size; (try simp at hsA); (try (have hZ : Shut (WCells wA w17.heap.size [.slice none 0 0]) := ⟨WCells.grow (w := w17.drew.alloc (.cells #[.slice none 0 0] 29)) (wcells_new w17.drew #[.slice none 0 0] 29) hbA⟩)); clear hwA hgA)
              | (go_at_call 19; refine (toAct_any x _).mono ?_; rintro e wB ⟨rfl, hbB⟩; have hSB : Shut (SA w wB w.heap.size (.slice a fs.length cap) (w.heap.size + 1) 0 1 2 3 x [(nb7, [.slice v7 (r.getD []).length c7]), (nb4, [.slice v4 (r.getD []).length c4]), (w.heap.size + 1, [.int .i64 x.kind, .string x.name, .string x.text, .string x.to]), (w.heap.size, [.slice a fs.length cap])] [(v7, fcs (marksF 1 (r.getD []).length), lo7, hi7), (v4, fcs (r.getD []), lo4, hi4)]) := ⟨SA.below (x := x) (by assumption) hbB⟩; have hWB : Shut (WCells wB gA (fcs fs)) := (by first | exact ⟨hWA.out.grow hbB⟩ | exact ⟨(hWA.out.alloc _).grow hbB⟩); have hsB := hbB.size; (try simp at hsB); (first | (have hZ : Shut (WCells wB wA.heap.size [.slice none 0 0]) := ⟨WCells.grow (w := wA.alloc (.cells #[.slice none 0 0] 29)) (wcells_new wA #[.slice none 0 0] 29) hbB⟩) | (replace hZ : Shut (WCells wB w17.heap.size [.slice none 0 0]) := ⟨hZ.out.grow hbB⟩) | skip))
              | (go_at_call 20; refine (implDoActR (r := r) HRE.out (some ⟨gA, 0, none⟩) fs.length _ (by first | exact hWB.out.crow | exact (hWB.out.alloc _).crow) HF.out hl HFS.out HXG.out).mono ?_; rintro e wC ⟨va, vc, rfl, hfC, hcC, hbC⟩; have hSC : Shut (SA w wC w.heap.size (.slice a fs.length cap) (w.heap.size + 1) 0 1 2 3 x [(nb7, [.slice v7 (r.getD []).length c7]), (nb4, [.slice v4 (r.getD []).length c4]), (w.heap.size + 1, [.int .i64 x.kind, .string x.name, .string x.text, .string x.to]), (w.heap.size, [.slice a fs.length cap])] [(v7, fcs (marksF 1 (r.getD []).length), lo7, hi7), (v4, fcs (r.getD []), lo4, hi4)]) := ⟨SA.below (x := x) (by assumption) hbC⟩; have hsC := hbC.size; (try simp at hsC); (first | (have hZ : Shut (WCells wC wB.heap.size [.slice none 0 0]) := ⟨WCells.grow (w := wB.alloc (.cells #[.slice none 0 0] 29)) (wcells_new wB #[.slice none 0 0] 29) hbC⟩) | (replace hZ : Shut (WCells wC w17.heap.size [.slice none 0 0]) := ⟨hZ.out.grow hbC⟩) | (replace hZ : Shut (WCells wC wA.heap.size [.slice none 0 0]) := ⟨hZ.out.grow hbC⟩) | skip); (try (obtain ⟨z0, z1⟩ := hZ.out.2 0 _ rfl))))
          all_goals
            go_wp2_with fail
            go_meet
          all_goals
            first
              | exact ⟨wC.heap.size, _, wC.heap.size, vc, va, rfl, rfl, hcC, ⟨(by first | omega | (simp; done) | (simp; omega) | (unfold World.setCell; simp; done) | (unfold World.setCell; simp; omega)), (by first | omega | (simp; done) | (simp; omega) | (unfold World.setCell; simp; done) | (unfold World.setCell; simp; omega)), (by first | omega | (simp; done) | (simp; omega) | (unfold World.setCell; simp; done) | (unfold World.setCell; simp; omega)), (by first | omega | (simp; done) | (simp; omega) | (unfold World.setCell; simp; done) | (unfold World.setCell; simp; omega)), .inr (Nat.le_refl _)⟩, ⟨(hSC.out.mem.row hfC).box #[.slice va (r.getD []).length vc] 29⟩⟩
              | exact ⟨w17.heap.size, _, wC.heap.size, vc, va, rfl, rfl, hcC, ⟨(by first | omega | (simp; done) | (simp; omega) | (unfold World.setCell; simp; done) | (unfold World.setCell; simp; omega)), (by first | omega | (simp; done) | (simp; omega) | (unfold World.setCell; simp; done) | (unfold World.setCell; simp; omega)), (by have := hZ.out.1; first | omega | (simp; omega) | (unfold World.setCell; simp; omega)), (by first | omega | (simp; done) | (simp; omega) | (unfold World.setCell; simp; done) | (unfold World.setCell; simp; omega)), .inl (by first | omega | (simp; done) | (simp; omega) | (unfold World.setCell; simp; done) | (unfold World.setCell; simp; omega))⟩, ⟨(hSC.out.mem.row hfC).setBox hZ.out _ (by first | omega | (simp; done) | (simp; omega) | (unfold World.setCell; simp; done) | (unfold World.setCell; simp; omega)) (by first | omega | (simp; done) | (simp; omega) | (unfold World.setCell; simp; done) | (unfold World.setCell; simp; omega)) (by first | omega | (simp; done) | (simp; omega) | (unfold World.setCell; simp; done) | (unfold World.setCell; simp; omega))⟩⟩
              | exact ⟨wA.heap.size, _, wC.heap.size, vc, va, rfl, rfl, hcC, ⟨(by first | omega | (simp; done) | (simp; omega) | (unfold World.setCell; simp; done) | (unfold World.setCell; simp; omega)), (by first | omega | (simp; done) | (simp; omega) | (unfold World.setCell; simp; done) | (unfold World.setCell; simp; omega)), (by have := hZ.out.1; first | omega | (simp; omega) | (unfold World.setCell; simp; omega)), (by first | omega | (simp; done) | (simp; omega) | (unfold World.setCell; simp; done) | (unfold World.setCell; simp; omega)), .inl (by first | omega | (simp; done) | (simp; omega) | (unfold World.setCell; simp; done) | (unfold World.setCell; simp; omega))⟩, ⟨(hSC.out.mem.row hfC).setBox hZ.out _ (by first | omega | (simp; done) | (simp; omega) | (unfold World.setCell; simp; done) | (unfold World.setCell; simp; omega)) (by first | omega | (simp; done) | (simp; omega) | (unfold World.setCell; simp; done) | (unfold World.setCell; simp; omega)) (by first | omega | (simp; done) | (simp; omega) | (unfold World.setCell; simp; done) | (unfold World.setCell; simp; omega))⟩⟩
              | exact ⟨wB.heap.size, _, wC.heap.size, vc, va, rfl, rfl, hcC, ⟨(by first | omega | (simp; done) | (simp; omega) | (unfold World.setCell; simp; done) | (unfold World.setCell; simp; omega)), (by first | omega | (simp; done) | (simp; omega) | (unfold World.setCell; simp; done) | (unfold World.setCell; simp; omega)), (by have := hZ.out.1; first | omega | (simp; omega) | (unfold World.setCell; simp; omega)), (by first | omega | (simp; done) | (simp; omega) | (unfold World.setCell; simp; done) | (unfold World.setCell; simp; omega)), .inl (by first | omega | (simp; done) | (simp; omega) | (unfold World.setCell; simp; done) | (unfold World.setCell; simp; omega))⟩, ⟨(hSC.out.mem.row hfC).setBox hZ.out _ (by first | omega | (simp; done) | (simp; omega) | (unfold World.setCell; simp; done) | (unfold World.setCell; simp; omega)) (by first | omega | (simp; done) | (simp; omega) | (unfold World.setCell; simp; done) | (unfold World.setCell; simp; omega)) (by first | omega | (simp; done) | (simp; omega) | (unfold World.setCell; simp; done) | (unfold World.setCell; simp; omega))⟩⟩
        case rest =>
          obtain ⟨nb20, lo20, hi20, c20, v20, rfl, rfl, hc20, ⟨q1, q2, q3, q4, q5⟩, M20⟩ := hcut
          have x20 := M20.out.cell0
          have y20 := M20.out.cell2
          clear HS0 hS0
          go_wp2_with fail
          refine (eqDisk_same v20 v4 (r.getD []) c20 c4 _ M20.out.at0.crow M20.out.at2.crow (by omega)).mono ?_
          rintro e w21 ⟨rfl, hb21⟩
          have M21 := M20.out.below hb21
          have HM21 : Shut (Mem w w21 _ _) := ⟨M21⟩
          have x21 := M21.cell1
          clear hb21 M20 x20 y20 M21
          go_wp2_with fail
          refine (heldDisk_any v7 1 (r.getD []).length c7 _ HM21.out.at1.crow (by omega) (by omega)).mono ?_
          rw [← HK16.out]
          rintro e w22 ⟨rfl, hb22⟩
          have HB : Hid (Below w.heap.size w w22) := (HM21.out.below hb22).low
          clear hb22 HM21 x21
          go_wp2_with fail
          go_ret
          exact ⟨rfl, HB.out⟩
end Go.Proofs.Ytkkpddcncpdnpaa
