/- Texts of ours, laid one behind the other: SpC, SpD, SpE, SpF, DrSq, DrAa, DrCt, ActB. -/
import Derived.Test.YtplcdcfhfaghiaaPa9
import Derived.Deep.CutRange
import Derived.Deep.Cut
/- SpC: The model's walk: an act that moves. -/
namespace Go.Proofs.Ytplcdcfhfaghiaa
set_option maxRecDepth 100000
open Go.RowKit
attribute [local go_sem ↓] Go.wp_at_zero Go.wp_at_succ

set_option maxHeartbeats 2000000 in
set_option maxRecDepth 100000 in
theorem specDoAct_move (a : Option Addr) (fs : List FM) (x : AM) (cap : Nat) (w : World) (hr : FRow w a fs) (hf : FFit fs) (hl : fs.length ≤ 1048576) (hn : x.name.size ≤ 9223372036854775807) (ht : x.text.size ≤ 1048576) (ho : x.dst.size ≤ 9223372036854775807) (hx : x.kind = 3) :
    Calls Try.prog 23 #[.agg #[.slice a fs.length cap], av x] w fun e w' => DiskPost ((doA fs x).getD []) (.bool (doA fs x).isSome) w e w' := by
  obtain ⟨k, n, t, o⟩ := x
  simp only at hn ht ho hx
  subst hx
  have HR : Hid (FRow w a fs) := hr
  have HF : Hid (FFit fs) := hf
  have m0 : Mem w w [] [] := ⟨by simp, by simp, Below.refl _ _⟩
  have m1 := ((m0.box #[.slice a fs.length cap] 26).box #[.int .i64 3, .string n, .string t, .string o] 37).box #[.slice none 0 0] 26
  simp only [World.size_alloc] at m1
  have M0 : Shut _ := ⟨m1⟩
  generalize hrr : doA fs ⟨3, n, t, o⟩ = rr
  have HRR : Hid (doA fs ⟨3, n, t, o⟩ = rr) := hrr
  generalize hD : dOkB fs = D
  have HD : Hid (dOkB fs = D) := hD
  clear hr hf m0 m1 hrr hD
  go_enter Try.func23, Try.ntmps23
  go_wp2_with fail
  refine (specDiskOk a fs cap _ (HR.out.stays M0.out.low) HF.out hl).mono ?_
  rw [HD.out]
  rintro e w1 ⟨rfl, hb1⟩
  have M1 : Shut (Mem w w1 [(w.heap.size + 1 + 1, [.slice none 0 0]), (w.heap.size + 1, [.int .i64 3, .string n, .string t, .string o]), (w.heap.size, [.slice a fs.length cap])] []) := ⟨M0.out.below hb1⟩
  have HY : Shut (WCells w1 (w.heap.size + 1 + 1) [.slice none 0 0]) := ⟨M1.out.cells _ (List.mem_cons_self ..)⟩
  have HB : Hid (Below w.heap.size w w1) := M1.out.low
  have hs1 : w.heap.size + 1 + 1 < w1.heap.size := HY.out.1
  have ha1 := M1.out.cells _ (List.mem_cons_of_mem _ (List.mem_cons_self ..))
  obtain ⟨a0, _⟩ := ha1.2 0 _ rfl
  obtain ⟨a1, _⟩ := ha1.2 1 _ rfl
  obtain ⟨a2, _⟩ := ha1.2 2 _ rfl
  obtain ⟨a3, _⟩ := ha1.2 3 _ rfl
  have x1 := M1.out.cell2
  clear hb1 M0 ha1
  cases D with
  | false =>
    have HE : Hid (rr = none) := HRR.out.symm.trans (by unfold doA; rw [if_neg (fun hc => by have := HD.out; rw [dOkB_yes hc.1] at this; cases this)])
    clear M1 x1
    obtain ⟨yc, yf⟩ := HY.out.2 0 _ rfl
    go_wp2_with fail
    refine bodyPost_ret (v := .tuple #[.agg #[.slice none 0 0], .bool false]) (by simp [results, Try.results23, go_sem, yc]) rfl ?_
    rw [HE.out]
    exact ⟨none, 0, rfl, .inl ⟨rfl, rfl⟩, Nat.le_refl _, HB.out.setCell (by simp; omega) _⟩
  | true =>
    have HOK : Hid (DOk fs) := by
      by_cases h : DOk fs
      · exact h
      · have := HD.out; rw [dOkB_no h] at this; cases this
    go_wp2_with fail
    generalize hnb : decide (1 ≤ n.size ∧ n.size ≤ 8) = nb
    refine (l03Name_is n _ nb hnb).mono ?_
    intro e w1' hw1
    obtain ⟨rfl, hww⟩ := hw1
    rw [hww]
    clear hww w1'
    cases nb with
    | false =>
      have HE : Hid (rr = none) := HRR.out.symm.trans (doA_no fun o' ha _ => absurd ha.1 (of_decide_eq_false hnb))
      clear M1 x1 hnb
      obtain ⟨yc, yf⟩ := HY.out.2 0 _ rfl
      go_wp2_with fail
      refine bodyPost_ret (v := .tuple #[.agg #[.slice none 0 0], .bool false]) (by simp [results, Try.results23, go_sem, yc]) rfl ?_
      rw [HE.out]
      exact ⟨none, 0, rfl, .inl ⟨rfl, rfl⟩, Nat.le_refl _, HB.out.setCell (by simp; omega) _⟩
    | true =>
      have HNB : Hid (1 ≤ n.size ∧ n.size ≤ 8) := (of_decide_eq_true hnb : 1 ≤ n.size ∧ n.size ≤ 8)
      clear hnb
      by_cases ht0 : t = ⟨#[]⟩
      · subst ht0
        have HAI : Hid (ActIs ⟨3, n, ⟨#[]⟩, o⟩) := (⟨HNB.out, fun h => absurd rfl h, fun _ => rfl⟩ : ActIs ⟨3, n, ⟨#[]⟩, o⟩)
        go_wp2_with fail
        refine (l03At_any a fs cap n _ (HR.out.stays HB.out) hl).mono ?_
        rintro e w2 ⟨r, rfl, hat, hb2⟩
        have M2 : Shut (Mem w w2 [(w.heap.size + 1 + 1, [.slice none 0 0]), (w.heap.size + 1, [.int .i64 3, .string n, .string ⟨#[]⟩, .string o]), (w.heap.size, [.slice a fs.length cap])] []) := ⟨M1.out.below hb2⟩
        have HY2 : Shut (WCells w2 (w.heap.size + 1 + 1) [.slice none 0 0]) := ⟨M2.out.cells _ (List.mem_cons_self ..)⟩
        have HB2 : Hid (Below w.heap.size w w2) := M2.out.low
        have hs2 : w.heap.size + 1 + 1 < w2.heap.size := HY2.out.1
        have hsa : w.heap.size + 1 < w2.heap.size := by omega
        have hsd : w.heap.size < w2.heap.size := by omega
        have ha2 := M2.out.cells _ (List.mem_cons_of_mem _ (List.mem_cons_self ..))
        clear a0 a1 a2 a3 x1
        obtain ⟨a0, _⟩ := ha2.2 0 _ rfl
        obtain ⟨a1, _⟩ := ha2.2 1 _ rfl
        obtain ⟨a2, _⟩ := ha2.2 2 _ rfl
        obtain ⟨a3, _⟩ := ha2.2 3 _ rfl
        have x2 := M2.out.cell2
        clear hb2 ha2 M1 M2 HY HB
        rcases hat with ⟨rfl, hno⟩ | ⟨j, rfl, hj, h1, h2⟩
        · have HFN : Hid (fileOf fs n = none) := fileOf_not hno
          clear hno
          have HE : Hid (rr = none) := HRR.out.symm.trans (doA_no fun o' _ he => by rw [outA_none (by decide : (3 : Int) ≠ 1) HFN.out] at he; cases he)
          have rc := ((((HY2.out.set 0 (.slice none 0 0) (by simp)).alloc (.cells #[.string n, .string ⟨#[]⟩, .int .i64 0] 55)).alloc (.cells #[.slice none 0 0] 26)).2 0 _ rfl).1
          obtain ⟨yc, yf⟩ := HY2.out.2 0 _ rfl
          go_wp2_with fail
          refine bodyPost_ret (v := .tuple #[.agg #[.slice none 0 0], .bool false]) (by simp [results, Try.results23, go_sem, rc]) rfl ?_
          rw [HE.out]
          exact ⟨none, 0, rfl, .inl ⟨rfl, rfl⟩, Nat.le_refl _, ((HB2.out.setCell (by simp; omega) _).alloc (by have := HB2.out.size; simp [World.setCell]; omega) _).alloc (by have := HB2.out.size; simp [World.setCell]; omega) _⟩
        · have HFN : Hid (fileOf fs n = some (fs.getD j default)) := fileOf_at hj h1 h2
          obtain ⟨b, off, rfl, lb, hc⟩ := FRow.at (HR.out.stays HB2.out) (by omega)
          obtain ⟨d0, d1, d2⟩ := hc j hj
          have hfo := HOK.out.ok fs[j] (List.getElem_mem hj)
          rw [← getD_atF fs j hj] at d0 d1 d2 hfo
          generalize fs.getD j default = f at *
          subst h1
          have hft := hfo.2.1
          have hfk0 := hfo.2.2.1
          have hfk1 := hfo.2.2.2
          have j0 : (0 : Int) ≤ (j : Int) := by omega
          have j1 : (j : Int) < (fs.length : Int) := by omega
          clear hc h2 hfo
          by_cases c1 : f.kept < (f.text.size : Int)
          · have HE : Hid (rr = none) := HRR.out.symm.trans (doA_no fun o' _ he => by unfold outA at he; simp [HFN.out, c1] at he)
            have rc := ((((HY2.out.set 0 (.slice none 0 0) (by simp)).alloc (.cells #[.string f.name, .string f.text, .int .i64 f.kept] 55)).alloc (.cells #[.slice none 0 0] 26)).2 0 _ rfl).1
            obtain ⟨yc, yf⟩ := HY2.out.2 0 _ rfl
            go_wp2_with fail
            refine bodyPost_ret (v := .tuple #[.agg #[.slice none 0 0], .bool false]) (by simp [results, Try.results23, go_sem, rc]) rfl ?_
            rw [HE.out]
            exact ⟨none, 0, rfl, .inl ⟨rfl, rfl⟩, Nat.le_refl _, ((HB2.out.setCell (by simp; omega) _).alloc (by have := HB2.out.size; simp [World.setCell]; omega) _).alloc (by have := HB2.out.size; simp [World.setCell]; omega) _⟩
          · by_cases c2 : o = f.name
            · have he : (o.toList == f.name.toList) = true := by rw [c2]; simp
              have HE : Hid (rr = none) := HRR.out.symm.trans (doA_no fun o' _ he => by unfold outA at he; simp [HFN.out, c2] at he)
              clear c2
              have rc := ((((HY2.out.set 0 (.slice none 0 0) (by simp)).alloc (.cells #[.string f.name, .string f.text, .int .i64 f.kept] 55)).alloc (.cells #[.slice none 0 0] 26)).2 0 _ rfl).1
              obtain ⟨yc, yf⟩ := HY2.out.2 0 _ rfl
              go_wp2_with fail
              refine bodyPost_ret (v := .tuple #[.agg #[.slice none 0 0], .bool false]) (by simp [results, Try.results23, go_sem, rc]) rfl ?_
              rw [HE.out]
              exact ⟨none, 0, rfl, .inl ⟨rfl, rfl⟩, Nat.le_refl _, ((HB2.out.setCell (by simp; omega) _).alloc (by have := HB2.out.size; simp [World.setCell]; omega) _).alloc (by have := HB2.out.size; simp [World.setCell]; omega) _⟩
            · have he := str_ne c2
              generalize hnb : decide (1 ≤ o.size ∧ o.size ≤ 8) = nb
              have HC2 : Hid (o ≠ f.name) := c2
              clear c2
              go_wp2_with fail
              refine (l03Name_is o _ nb hnb).mono ?_
              intro e w2' hw2
              obtain ⟨rfl, hww⟩ := hw2
              rw [hww]
              clear hww w2'
              cases nb with
              | false =>
                have HE : Hid (rr = none) := HRR.out.symm.trans (doA_no fun o' _ he => by unfold outA at he; simp [HFN.out] at he; exact fun _ => of_decide_eq_false hnb ⟨he.1.2.2.1, he.1.2.2.2⟩)
                clear hnb
                have rc := ((((HY2.out.set 0 (.slice none 0 0) (by simp)).alloc (.cells #[.string f.name, .string f.text, .int .i64 f.kept] 55)).alloc (.cells #[.slice none 0 0] 26)).2 0 _ rfl).1
                obtain ⟨yc, yf⟩ := HY2.out.2 0 _ rfl
                go_wp2_with fail
                refine bodyPost_ret (v := .tuple #[.agg #[.slice none 0 0], .bool false]) (by simp [results, Try.results23, go_sem, rc]) rfl ?_
                rw [HE.out]
                exact ⟨none, 0, rfl, .inl ⟨rfl, rfl⟩, Nat.le_refl _, ((HB2.out.setCell (by simp; omega) _).alloc (by have := HB2.out.size; simp [World.setCell]; omega) _).alloc (by have := HB2.out.size; simp [World.setCell]; omega) _⟩
              | true =>
                have hob := of_decide_eq_true hnb
                have HOA : Hid (outA fs ⟨3, f.name, ⟨#[]⟩, o⟩ = some (putF ⟨o, f.text, f.kept⟩ (withoutF f.name fs))) := (by unfold outA; simp [HFN.out, HC2.out]; exact ⟨by omega, hob.1, hob.2⟩ : outA fs ⟨3, f.name, ⟨#[]⟩, o⟩ = some (putF ⟨o, f.text, f.kept⟩ (withoutF f.name fs)))
                have hpp := FFit.put (ok_without HOK.out f.name) ⟨o, f.text, f.kept⟩ ho (by show f.text.size ≤ _; omega) (by constructor <;> first | (show _ ≤ f.kept; omega) | (show f.kept ≤ _; omega))
                have HFO : Hid (FFit (putF ⟨o, f.text, f.kept⟩ (withoutF f.name fs))) := hpp.1
                have hlo : (putF ⟨o, f.text, f.kept⟩ (withoutF f.name fs)).length ≤ 1048576 := by have := hpp.2; omega
                clear hpp hnb hob
                have HB4 : Hid (Below w.heap.size w ((w2.alloc (.cells #[.string o, .string f.text, .int .i64 f.kept] 55)).alloc (.cells #[.slice none 0 0] 26))) := (HB2.out.alloc HB2.out.size _).alloc (by have := HB2.out.size; simp; omega) _
                have HQ4 : Shut (WCells ((w2.alloc (.cells #[.string o, .string f.text, .int .i64 f.kept] 55)).alloc (.cells #[.slice none 0 0] 26)) (w2.heap.size + 1) [.slice none 0 0]) := ⟨by have := wcells_new (w2.alloc (.cells #[.string o, .string f.text, .int .i64 f.kept] 55)) #[.slice none 0 0] 26; simpa using this⟩
                have HY4 : Shut (WCells ((w2.alloc (.cells #[.string o, .string f.text, .int .i64 f.kept] 55)).alloc (.cells #[.slice none 0 0] 26)) (w.heap.size + 1 + 1) [.slice none 0 0]) := ⟨(HY2.out.alloc _).alloc _⟩
                have HG4 : Shut (WCells ((w2.alloc (.cells #[.string o, .string f.text, .int .i64 f.kept] 55)).alloc (.cells #[.slice none 0 0] 26)) w2.heap.size (fcells ⟨o, f.text, f.kept⟩)) := ⟨(wcells_new w2 #[.string o, .string f.text, .int .i64 f.kept] 55).alloc _⟩
                have hwl := (ok_without HOK.out f.name).1
                go_wp2_with fail
                have hS4 : Shut (S5 ((w2.alloc (.cells #[.string o, .string f.text, .int .i64 f.kept] 55)).alloc (.cells #[.slice none 0 0] 26)) w.heap.size (w.heap.size + 1) w2.heap.size (.slice (some ⟨b, off, none⟩) fs.length cap) f.name ⟨o, f.text, f.kept⟩) := ⟨⟨((((Below.refl _ _).alloc (Nat.le_refl _) _).alloc (by simp) _ : Below w2.heap.size w2 ((w2.alloc (.cells #[.string o, .string f.text, .int .i64 f.kept] 55)).alloc (.cells #[.slice none 0 0] 26))).cell (p := ⟨w.heap.size, 0, none⟩) hsd).trans x2, ((((Below.refl _ _).alloc (Nat.le_refl _) _).alloc (by simp) _ : Below w2.heap.size w2 ((w2.alloc (.cells #[.string o, .string f.text, .int .i64 f.kept] 55)).alloc (.cells #[.slice none 0 0] 26))).cell (p := ⟨w.heap.size + 1, 1, none⟩) hsa).trans a1, (HG4.out.2 0 _ rfl).1, (HG4.out.2 1 _ rfl).1, (HG4.out.2 2 _ rfl).1⟩⟩
                go_region_held3 (fun w' => w'.cell? ⟨w.heap.size, 0, none⟩ = some (.slice (some ⟨b, off, none⟩) fs.length cap) ∧ w'.cell? ⟨w.heap.size + 1, 1, none⟩ = some (.string f.name) ∧ w'.cell? ⟨w2.heap.size, 0, none⟩ = some (.string o) ∧ w'.cell? ⟨w2.heap.size, 1, none⟩ = some (.string f.text) ∧ w'.cell? ⟨w2.heap.size, 2, none⟩ = some (.int .i64 f.kept))
                  (first | assumption | (exact hS4.out) | (exact S5.below (f := ⟨o, f.text, f.kept⟩) (by assumption) hb6) | (exact S5.below (f := ⟨o, f.text, f.kept⟩) (by assumption) hb5) | (exact S5.set (f := ⟨o, f.text, f.kept⟩) (by assumption) _ (by simp; omega) (by simp; omega) (by simp)))
                  (first
                    | (go_at_call 47; refine (l03Without_any _ fs cap f.name _ (HR.out.stays HB4.out.drew) hl).mono ?_; rintro e w5 ⟨v5, rfl, hown5, hb5⟩; obtain ⟨va5, vc5, rfl⟩ := own_formD hown5)
                    | (go_at_call 30; refine (l03Put_any va5 (withoutF f.name fs) vc5 ⟨o, f.text, f.kept⟩ _ (FRw.of_own hown5).1.crow (by omega)).mono ?_; rintro e w6 ⟨v6, rfl, hown6, hb6⟩; obtain ⟨va6, vc6, rfl⟩ := own_formD hown6; have hq6 := (WCells.grow (w := World.drew ((w2.alloc (.cells #[.string o, .string f.text, .int .i64 f.kept] 55)).alloc (.cells #[.slice none 0 0] 26))) HQ4.out hb5).grow hb6; obtain ⟨q0, q1⟩ := hq6.2 0 _ rfl))
                all_goals
                  have HY : Shut (WCells w6 (w.heap.size + 1 + 1) [.slice none 0 0]) := ⟨(WCells.grow (w := World.drew ((w2.alloc (.cells #[.string o, .string f.text, .int .i64 f.kept] 55)).alloc (.cells #[.slice none 0 0] 26))) HY4.out hb5).grow hb6⟩
                  have HQ : Shut (WCells w6 (w2.heap.size + 1) [.slice none 0 0]) := ⟨hq6⟩
                  have HB5 : Hid (Below w.heap.size w w5) := HB4.out.drew.trans (hb5.mono (by have := HB2.out.size; simp; omega))
                  have HB : Hid (Below w.heap.size w w6) := HB5.out.trans (hb6.mono HB5.out.size)
                  have hsz5 : w2.heap.size + 2 ≤ w5.heap.size := by have := hb5.size; simpa using this
                  have hown5' := hown6
                  clear hq6 hb5 hb6 hown5 HB5 HQ4 HY4 HG4 HB4 a0 a1 a2 a3 x2 d0 d1 d2 hS4
                  have HQ6 : Shut (WCells (w6.setCell ⟨w2.heap.size + 1, 0, none⟩ (.slice va6 (putF ⟨o, f.text, f.kept⟩ (withoutF f.name fs)).length vc6)) (w2.heap.size + 1) [.slice va6 (putF ⟨o, f.text, f.kept⟩ (withoutF f.name fs)).length vc6]) := ⟨HQ.out.set 0 (.slice va6 (putF ⟨o, f.text, f.kept⟩ (withoutF f.name fs)).length vc6) (by simp)⟩
                  have HY6 : Shut (WCells (w6.setCell ⟨w2.heap.size + 1, 0, none⟩ (.slice va6 (putF ⟨o, f.text, f.kept⟩ (withoutF f.name fs)).length vc6)) (w.heap.size + 1 + 1) [.slice none 0 0]) := ⟨HY.out.other _ _ (by simp; omega)⟩
                  have HB6 : Hid (Below w.heap.size w (w6.setCell ⟨w2.heap.size + 1, 0, none⟩ (.slice va6 (putF ⟨o, f.text, f.kept⟩ (withoutF f.name fs)).length vc6))) := HB.out.setCell (by simp; omega) _
                  have HO6 : Shut ((w6.setCell ⟨w2.heap.size + 1, 0, none⟩ (.slice va6 (putF ⟨o, f.text, f.kept⟩ (withoutF f.name fs)).length vc6)).ownsRow (w2.heap.size + 2) 55 3 (.slice va6 (putF ⟨o, f.text, f.kept⟩ (withoutF f.name fs)).length vc6) (putF ⟨o, f.text, f.kept⟩ (withoutF f.name fs)).length (fcs (putF ⟨o, f.text, f.kept⟩ (withoutF f.name fs)))) := ⟨own_other (own_wider hown5' hsz5) (show w2.heap.size + 1 < w2.heap.size + 2 by omega) _ rfl _ rfl⟩
                  clear hown5' HY HQ HB hsz5
                  generalize hOUT : putF ⟨o, f.text, f.kept⟩ (withoutF f.name fs) = out at *
                  clear hOUT
                  go_wp2_with fail
                  refine (specDiskOk va6 out vc6 _ (FRw.of_own HO6.out).1.crow HFO.out hlo).mono ?_
                  generalize hD2 : dOkB out = D2
                  rintro e w7 ⟨rfl, hb7⟩
                  have HY7 : Shut (WCells w7 (w.heap.size + 1 + 1) [.slice none 0 0]) := ⟨HY6.out.grow hb7⟩
                  have HQ7 : Shut (WCells w7 (w2.heap.size + 1) [.slice va6 out.length vc6]) := ⟨HQ6.out.grow hb7⟩
                  have HB7 : Hid (Below w.heap.size w w7) := HB6.out.trans (hb7.mono HB6.out.size)
                  have HO7 : Shut (w7.ownsRow (w2.heap.size + 2) 55 3 (.slice va6 out.length vc6) out.length (fcs out)) := ⟨own_belowD HO6.out hb7⟩
                  clear hb7 HY6 HQ6 HB6 HO6
                  obtain ⟨yc, yf⟩ := HY7.out.2 0 _ rfl
                  obtain ⟨qc, qf⟩ := HQ7.out.2 0 _ rfl
                  cases D2 with
                  | false =>
                    have HE : Hid (rr = none) := HRR.out.symm.trans (doA_no fun o' ha he hd => by rw [HOA.out] at he; cases he; rw [dOkB_yes hd] at hD2; cases hD2)
                    clear hD2
                    go_wp2_with fail
                    refine bodyPost_ret (v := .tuple #[.agg #[.slice none 0 0], .bool false]) (by simp [results, Try.results23, go_sem, yc]) rfl ?_
                    rw [HE.out]
                    exact ⟨none, 0, rfl, .inl ⟨rfl, rfl⟩, Nat.le_refl _, HB7.out.setCell (by simp; omega) _⟩
                  | true =>
                    have HE : Hid (rr = some out) := HRR.out.symm.trans (doA_of HOK.out HAI.out HOA.out (by by_cases h : DOk out; exact h; rw [dOkB_no h] at hD2; cases hD2))
                    clear hD2
                    go_wp2_with fail
                    refine bodyPost_ret (v := .tuple #[.agg #[.slice va6 out.length vc6], .bool true]) (by simp [results, Try.results23, go_sem, yc]) rfl ?_
                    rw [HE.out]
                    have ho8 := own_wider (C := w.heap.size) (own_other HO7.out (show w.heap.size + 1 + 1 < w2.heap.size + 2 by omega) ⟨w.heap.size + 1 + 1, 0, none⟩ rfl (.slice va6 out.length vc6) rfl) (by omega)
                    obtain ⟨hf8, hc8⟩ := FRw.of_own ho8
                    exact ⟨va6, vc6, rfl, hf8, hc8, HB7.out.setCell (by simp; omega) _⟩
      · have hte := not_empty ht0
        have HE : Hid (rr = none) := HRR.out.symm.trans (doA_wrong (.inl ⟨(by decide : (3 : Int) ≠ 1), ht0⟩))
        clear M1 x1
        clear ht0
        obtain ⟨yc, yf⟩ := HY.out.2 0 _ rfl
        go_wp2_with fail
        refine bodyPost_ret (v := .tuple #[.agg #[.slice none 0 0], .bool false]) (by simp [results, Try.results23, go_sem, yc]) rfl ?_
        rw [HE.out]
        exact ⟨none, 0, rfl, .inl ⟨rfl, rfl⟩, Nat.le_refl _, HB.out.setCell (by simp; omega) _⟩
end Go.Proofs.Ytplcdcfhfaghiaa
/- SpD: The model's walk: an act that keeps, drops, or is none. -/
namespace Go.Proofs.Ytplcdcfhfaghiaa
set_option maxRecDepth 100000
open Go.RowKit
attribute [local go_sem ↓] Go.wp_at_zero Go.wp_at_succ

set_option maxHeartbeats 2000000 in
set_option maxRecDepth 100000 in
theorem specDoAct_else (a : Option Addr) (fs : List FM) (x : AM) (cap : Nat) (w : World) (hr : FRow w a fs) (hf : FFit fs) (hl : fs.length ≤ 1048576) (hn : x.name.size ≤ 9223372036854775807) (ht : x.text.size ≤ 1048576) (ho : x.dst.size ≤ 9223372036854775807) (k1 : x.kind ≠ 1) (k3 : x.kind ≠ 3) :
    Calls Try.prog 23 #[.agg #[.slice a fs.length cap], av x] w fun e w' => DiskPost ((doA fs x).getD []) (.bool (doA fs x).isSome) w e w' := by
  obtain ⟨k, n, t, o⟩ := x
  simp only at hn ht ho k1 k3
  have HR : Hid (FRow w a fs) := hr
  have HF : Hid (FFit fs) := hf
  have m0 : Mem w w [] [] := ⟨by simp, by simp, Below.refl _ _⟩
  have m1 := ((m0.box #[.slice a fs.length cap] 26).box #[.int .i64 k, .string n, .string t, .string o] 37).box #[.slice none 0 0] 26
  simp only [World.size_alloc] at m1
  have M0 : Shut _ := ⟨m1⟩
  generalize hrr : doA fs ⟨k, n, t, o⟩ = rr
  have HRR : Hid (doA fs ⟨k, n, t, o⟩ = rr) := hrr
  generalize hD : dOkB fs = D
  have HD : Hid (dOkB fs = D) := hD
  clear hr hf m0 m1 hrr hD
  go_enter Try.func23, Try.ntmps23
  go_wp2_with fail
  refine (specDiskOk a fs cap _ (HR.out.stays M0.out.low) HF.out hl).mono ?_
  rw [HD.out]
  rintro e w1 ⟨rfl, hb1⟩
  have M1 : Shut (Mem w w1 [(w.heap.size + 1 + 1, [.slice none 0 0]), (w.heap.size + 1, [.int .i64 k, .string n, .string t, .string o]), (w.heap.size, [.slice a fs.length cap])] []) := ⟨M0.out.below hb1⟩
  have HY : Shut (WCells w1 (w.heap.size + 1 + 1) [.slice none 0 0]) := ⟨M1.out.cells _ (List.mem_cons_self ..)⟩
  have HB : Hid (Below w.heap.size w w1) := M1.out.low
  have hs1 : w.heap.size + 1 + 1 < w1.heap.size := HY.out.1
  have ha1 := M1.out.cells _ (List.mem_cons_of_mem _ (List.mem_cons_self ..))
  obtain ⟨a0, _⟩ := ha1.2 0 _ rfl
  obtain ⟨a1, _⟩ := ha1.2 1 _ rfl
  obtain ⟨a2, _⟩ := ha1.2 2 _ rfl
  obtain ⟨a3, _⟩ := ha1.2 3 _ rfl
  have x1 := M1.out.cell2
  clear hb1 M0 ha1
  cases D with
  | false =>
    have HE : Hid (rr = none) := HRR.out.symm.trans (by unfold doA; rw [if_neg (fun hc => by have := HD.out; rw [dOkB_yes hc.1] at this; cases this)])
    clear M1 x1
    obtain ⟨yc, yf⟩ := HY.out.2 0 _ rfl
    go_wp2_with fail
    refine bodyPost_ret (v := .tuple #[.agg #[.slice none 0 0], .bool false]) (by simp [results, Try.results23, go_sem, yc]) rfl ?_
    rw [HE.out]
    exact ⟨none, 0, rfl, .inl ⟨rfl, rfl⟩, Nat.le_refl _, HB.out.setCell (by simp; omega) _⟩
  | true =>
    have HOK : Hid (DOk fs) := by
      by_cases h : DOk fs
      · exact h
      · have := HD.out; rw [dOkB_no h] at this; cases this
    go_wp2_with fail
    generalize hnb : decide (1 ≤ n.size ∧ n.size ≤ 8) = nb
    refine (l03Name_is n _ nb hnb).mono ?_
    intro e w1' hw1
    obtain ⟨rfl, hww⟩ := hw1
    rw [hww]
    clear hww w1'
    cases nb with
    | false =>
      have HE : Hid (rr = none) := HRR.out.symm.trans (doA_no fun o' ha _ => absurd ha.1 (of_decide_eq_false hnb))
      clear M1 x1 hnb
      obtain ⟨yc, yf⟩ := HY.out.2 0 _ rfl
      go_wp2_with fail
      refine bodyPost_ret (v := .tuple #[.agg #[.slice none 0 0], .bool false]) (by simp [results, Try.results23, go_sem, yc]) rfl ?_
      rw [HE.out]
      exact ⟨none, 0, rfl, .inl ⟨rfl, rfl⟩, Nat.le_refl _, HB.out.setCell (by simp; omega) _⟩
    | true =>
      have HNB : Hid (1 ≤ n.size ∧ n.size ≤ 8) := (of_decide_eq_true hnb : 1 ≤ n.size ∧ n.size ≤ 8)
      clear hnb
      have k1' : (k != 1) = true := by simpa using k1
      have k3' : (k != 3) = true := by simpa using k3
      by_cases ho0 : o = ⟨#[]⟩
      · subst ho0
        by_cases ht0 : t = ⟨#[]⟩
        · subst ht0
          by_cases k2 : k = 2
          · subst k2
            have HAI : Hid (ActIs ⟨2, n, ⟨#[]⟩, ⟨#[]⟩⟩) := (⟨HNB.out, fun _ => rfl, fun _ => rfl⟩ : ActIs ⟨2, n, ⟨#[]⟩, ⟨#[]⟩⟩)
            clear k1 k1' k3 k3'
            go_wp2_with fail
            refine (l03At_any a fs cap n _ (HR.out.stays HB.out) hl).mono ?_
            rintro e w2 ⟨r, rfl, hat, hb2⟩
            have M2 : Shut (Mem w w2 [(w.heap.size + 1 + 1, [.slice none 0 0]), (w.heap.size + 1, [.int .i64 2, .string n, .string ⟨#[]⟩, .string ⟨#[]⟩]), (w.heap.size, [.slice a fs.length cap])] []) := ⟨M1.out.below hb2⟩
            have HY2 : Shut (WCells w2 (w.heap.size + 1 + 1) [.slice none 0 0]) := ⟨M2.out.cells _ (List.mem_cons_self ..)⟩
            have HB2 : Hid (Below w.heap.size w w2) := M2.out.low
            have hs2 : w.heap.size + 1 + 1 < w2.heap.size := HY2.out.1
            have hsa : w.heap.size + 1 < w2.heap.size := by omega
            have hsd : w.heap.size < w2.heap.size := by omega
            have ha2 := M2.out.cells _ (List.mem_cons_of_mem _ (List.mem_cons_self ..))
            clear a0 a1 a2 a3 x1
            obtain ⟨a0, _⟩ := ha2.2 0 _ rfl
            obtain ⟨a1, _⟩ := ha2.2 1 _ rfl
            obtain ⟨a2, _⟩ := ha2.2 2 _ rfl
            obtain ⟨a3, _⟩ := ha2.2 3 _ rfl
            have x2 := M2.out.cell2
            clear hb2 ha2 M1 M2 HY HB
            rcases hat with ⟨rfl, hno⟩ | ⟨j, rfl, hj, h1, h2⟩
            · have HFN : Hid (fileOf fs n = none) := fileOf_not hno
              clear hno
              have HE : Hid (rr = none) := HRR.out.symm.trans (doA_no fun o' _ he => by rw [outA_none (by decide : (2 : Int) ≠ 1) HFN.out] at he; cases he)
              have rc := ((((HY2.out.set 0 (.slice none 0 0) (by simp)).alloc (.cells #[.string n, .string ⟨#[]⟩, .int .i64 0] 55)).alloc (.cells #[.slice none 0 0] 26)).2 0 _ rfl).1
              obtain ⟨yc, yf⟩ := HY2.out.2 0 _ rfl
              go_wp2_with fail
              refine bodyPost_ret (v := .tuple #[.agg #[.slice none 0 0], .bool false]) (by simp [results, Try.results23, go_sem, rc]) rfl ?_
              rw [HE.out]
              exact ⟨none, 0, rfl, .inl ⟨rfl, rfl⟩, Nat.le_refl _, ((HB2.out.setCell (by simp; omega) _).alloc (by have := HB2.out.size; simp [World.setCell]; omega) _).alloc (by have := HB2.out.size; simp [World.setCell]; omega) _⟩
            · have HFN : Hid (fileOf fs n = some (fs.getD j default)) := fileOf_at hj h1 h2
              obtain ⟨b, off, rfl, lb, hc⟩ := FRow.at (HR.out.stays HB2.out) (by omega)
              obtain ⟨d0, d1, d2⟩ := hc j hj
              have hfo := HOK.out.ok fs[j] (List.getElem_mem hj)
              rw [← getD_atF fs j hj] at d0 d1 d2 hfo
              generalize fs.getD j default = f at *
              subst h1
              have hft := hfo.2.1
              have hfk0 := hfo.2.2.1
              have hfk1 := hfo.2.2.2
              have j0 : (0 : Int) ≤ (j : Int) := by omega
              have j1 : (j : Int) < (fs.length : Int) := by omega
              clear hc h2 hfo
              have HOA : Hid (outA fs ⟨2, f.name, ⟨#[]⟩, ⟨#[]⟩⟩ = some (putF ⟨f.name, f.text, (f.text.size : Int)⟩ fs)) := (by unfold outA; simp [HFN.out] : outA fs ⟨2, f.name, ⟨#[]⟩, ⟨#[]⟩⟩ = some (putF ⟨f.name, f.text, (f.text.size : Int)⟩ fs))
              have hpp := FFit.put HOK.out ⟨f.name, f.text, (f.text.size : Int)⟩ hn (by first | exact hTs | (show f.text.size ≤ _; omega)) (by constructor <;> first | (show _ ≤ f.kept; omega) | (show f.kept ≤ _; omega) | (show _ ≤ (f.text.size : Int); omega) | (show (f.text.size : Int) ≤ _; omega))
              have HFO : Hid (FFit (putF ⟨f.name, f.text, (f.text.size : Int)⟩ fs)) := hpp.1
              have hlo : (putF ⟨f.name, f.text, (f.text.size : Int)⟩ fs).length ≤ 1048576 := by have := hpp.2; omega
              clear hpp
              have HB4 : Hid (Below w.heap.size w ((w2.alloc (.cells #[.string f.name, .string f.text, .int .i64 (f.text.size : Int)] 55)).alloc (.cells #[.slice none 0 0] 26))) := (HB2.out.alloc HB2.out.size _).alloc (by have := HB2.out.size; simp; omega) _
              go_wp2_with fail
              refine (l03Put_any _ fs cap ⟨f.name, f.text, (f.text.size : Int)⟩ _ (HR.out.stays HB4.out) hl).mono ?_
              rintro e w5 ⟨v5, rfl, hown5, hb5⟩
              have HQ : Shut (WCells w5 (w2.heap.size + 1) [.slice none 0 0]) := ⟨by have := (wcells_new (w2.alloc (.cells #[.string f.name, .string f.text, .int .i64 (f.text.size : Int)] 55)) #[.slice none 0 0] 26).grow hb5; simpa using this⟩
              have HY : Shut (WCells w5 (w.heap.size + 1 + 1) [.slice none 0 0]) := ⟨((HY2.out.alloc _).alloc _).grow hb5⟩
              have HB : Hid (Below w.heap.size w w5) := HB4.out.trans (hb5.mono HB4.out.size)
              clear hb5 HB4
              obtain ⟨va, vc, rfl⟩ := own_formD hown5
              have HQ6 : Shut (WCells (w5.setCell ⟨w2.heap.size + 1, 0, none⟩ (.slice va (putF ⟨f.name, f.text, (f.text.size : Int)⟩ fs).length vc)) (w2.heap.size + 1) [.slice va (putF ⟨f.name, f.text, (f.text.size : Int)⟩ fs).length vc]) := ⟨HQ.out.set 0 (.slice va (putF ⟨f.name, f.text, (f.text.size : Int)⟩ fs).length vc) (by simp)⟩
              have HY6 : Shut (WCells (w5.setCell ⟨w2.heap.size + 1, 0, none⟩ (.slice va (putF ⟨f.name, f.text, (f.text.size : Int)⟩ fs).length vc)) (w.heap.size + 1 + 1) [.slice none 0 0]) := ⟨HY.out.other _ _ (by simp; omega)⟩
              have HB6 : Hid (Below w.heap.size w (w5.setCell ⟨w2.heap.size + 1, 0, none⟩ (.slice va (putF ⟨f.name, f.text, (f.text.size : Int)⟩ fs).length vc))) := HB.out.setCell (by simp; omega) _
              have HO6 : Shut ((w5.setCell ⟨w2.heap.size + 1, 0, none⟩ (.slice va (putF ⟨f.name, f.text, (f.text.size : Int)⟩ fs).length vc)).ownsRow (w2.heap.size + 2) 55 3 (.slice va (putF ⟨f.name, f.text, (f.text.size : Int)⟩ fs).length vc) (putF ⟨f.name, f.text, (f.text.size : Int)⟩ fs).length (fcs (putF ⟨f.name, f.text, (f.text.size : Int)⟩ fs))) := ⟨own_other (own_wider hown5 (by simp)) (show w2.heap.size + 1 < w2.heap.size + 2 by omega) _ rfl _ rfl⟩
              obtain ⟨qc5, qf5⟩ := HQ.out.2 0 _ rfl
              clear hown5 HY HQ HB
              generalize hOUT : putF ⟨f.name, f.text, (f.text.size : Int)⟩ fs = out at *
              clear hOUT
              go_wp2_with fail
              refine (specDiskOk va out vc _ (FRw.of_own HO6.out).1.crow HFO.out hlo).mono ?_
              generalize hD2 : dOkB out = D2
              rintro e w7 ⟨rfl, hb7⟩
              have HY7 : Shut (WCells w7 (w.heap.size + 1 + 1) [.slice none 0 0]) := ⟨HY6.out.grow hb7⟩
              have HQ7 : Shut (WCells w7 (w2.heap.size + 1) [.slice va out.length vc]) := ⟨HQ6.out.grow hb7⟩
              have HB7 : Hid (Below w.heap.size w w7) := HB6.out.trans (hb7.mono HB6.out.size)
              have HO7 : Shut (w7.ownsRow (w2.heap.size + 2) 55 3 (.slice va out.length vc) out.length (fcs out)) := ⟨own_belowD HO6.out hb7⟩
              clear hb7 HY6 HQ6 HB6 HO6
              obtain ⟨yc, yf⟩ := HY7.out.2 0 _ rfl
              obtain ⟨qc, qf⟩ := HQ7.out.2 0 _ rfl
              cases D2 with
              | false =>
                have HE : Hid (rr = none) := HRR.out.symm.trans (doA_no fun o' ha he hd => by rw [HOA.out] at he; cases he; rw [dOkB_yes hd] at hD2; cases hD2)
                clear hD2
                go_wp2_with fail
                refine bodyPost_ret (v := .tuple #[.agg #[.slice none 0 0], .bool false]) (by simp [results, Try.results23, go_sem, yc]) rfl ?_
                rw [HE.out]
                exact ⟨none, 0, rfl, .inl ⟨rfl, rfl⟩, Nat.le_refl _, HB7.out.setCell (by simp; omega) _⟩
              | true =>
                have HE : Hid (rr = some out) := HRR.out.symm.trans (doA_of HOK.out HAI.out HOA.out (by by_cases h : DOk out; exact h; rw [dOkB_no h] at hD2; cases hD2))
                clear hD2
                go_wp2_with fail
                refine bodyPost_ret (v := .tuple #[.agg #[.slice va out.length vc], .bool true]) (by simp [results, Try.results23, go_sem, yc]) rfl ?_
                rw [HE.out]
                have ho8 := own_wider (C := w.heap.size) (own_other HO7.out (show w.heap.size + 1 + 1 < w2.heap.size + 2 by omega) ⟨w.heap.size + 1 + 1, 0, none⟩ rfl (.slice va out.length vc) rfl) (by omega)
                obtain ⟨hf8, hc8⟩ := FRw.of_own ho8
                exact ⟨va, vc, rfl, hf8, hc8, HB7.out.setCell (by simp; omega) _⟩
          · by_cases k4 : k = 4
            · subst k4
              have HAI : Hid (ActIs ⟨4, n, ⟨#[]⟩, ⟨#[]⟩⟩) := (⟨HNB.out, fun _ => rfl, fun _ => rfl⟩ : ActIs ⟨4, n, ⟨#[]⟩, ⟨#[]⟩⟩)
              clear k1 k1' k2 k3 k3'
              go_wp2_with fail
              refine (l03At_any a fs cap n _ (HR.out.stays HB.out) hl).mono ?_
              rintro e w2 ⟨r, rfl, hat, hb2⟩
              have M2 : Shut (Mem w w2 [(w.heap.size + 1 + 1, [.slice none 0 0]), (w.heap.size + 1, [.int .i64 4, .string n, .string ⟨#[]⟩, .string ⟨#[]⟩]), (w.heap.size, [.slice a fs.length cap])] []) := ⟨M1.out.below hb2⟩
              have HY2 : Shut (WCells w2 (w.heap.size + 1 + 1) [.slice none 0 0]) := ⟨M2.out.cells _ (List.mem_cons_self ..)⟩
              have HB2 : Hid (Below w.heap.size w w2) := M2.out.low
              have hs2 : w.heap.size + 1 + 1 < w2.heap.size := HY2.out.1
              have hsa : w.heap.size + 1 < w2.heap.size := by omega
              have hsd : w.heap.size < w2.heap.size := by omega
              have ha2 := M2.out.cells _ (List.mem_cons_of_mem _ (List.mem_cons_self ..))
              clear a0 a1 a2 a3 x1
              obtain ⟨a0, _⟩ := ha2.2 0 _ rfl
              obtain ⟨a1, _⟩ := ha2.2 1 _ rfl
              obtain ⟨a2, _⟩ := ha2.2 2 _ rfl
              obtain ⟨a3, _⟩ := ha2.2 3 _ rfl
              have x2 := M2.out.cell2
              clear hb2 ha2 M1 M2 HY HB
              rcases hat with ⟨rfl, hno⟩ | ⟨j, rfl, hj, h1, h2⟩
              · have HFN : Hid (fileOf fs n = none) := fileOf_not hno
                clear hno
                have HE : Hid (rr = none) := HRR.out.symm.trans (doA_no fun o' _ he => by rw [outA_none (by decide : (4 : Int) ≠ 1) HFN.out] at he; cases he)
                have rc := ((((HY2.out.set 0 (.slice none 0 0) (by simp)).alloc (.cells #[.string n, .string ⟨#[]⟩, .int .i64 0] 55)).alloc (.cells #[.slice none 0 0] 26)).2 0 _ rfl).1
                obtain ⟨yc, yf⟩ := HY2.out.2 0 _ rfl
                go_wp2_with fail
                refine bodyPost_ret (v := .tuple #[.agg #[.slice none 0 0], .bool false]) (by simp [results, Try.results23, go_sem, rc]) rfl ?_
                rw [HE.out]
                exact ⟨none, 0, rfl, .inl ⟨rfl, rfl⟩, Nat.le_refl _, ((HB2.out.setCell (by simp; omega) _).alloc (by have := HB2.out.size; simp [World.setCell]; omega) _).alloc (by have := HB2.out.size; simp [World.setCell]; omega) _⟩
              · have HFN : Hid (fileOf fs n = some (fs.getD j default)) := fileOf_at hj h1 h2
                obtain ⟨b, off, rfl, lb, hc⟩ := FRow.at (HR.out.stays HB2.out) (by omega)
                obtain ⟨d0, d1, d2⟩ := hc j hj
                have hfo := HOK.out.ok fs[j] (List.getElem_mem hj)
                rw [← getD_atF fs j hj] at d0 d1 d2 hfo
                generalize fs.getD j default = f at *
                subst h1
                have hft := hfo.2.1
                have hfk0 := hfo.2.2.1
                have hfk1 := hfo.2.2.2
                have j0 : (0 : Int) ≤ (j : Int) := by omega
                have j1 : (j : Int) < (fs.length : Int) := by omega
                clear hc h2 hfo
                have HOA : Hid (outA fs ⟨4, f.name, ⟨#[]⟩, ⟨#[]⟩⟩ = some (withoutF f.name fs)) := (by unfold outA; simp [HFN.out] : outA fs ⟨4, f.name, ⟨#[]⟩, ⟨#[]⟩⟩ = some (withoutF f.name fs))
                have HFO : Hid (FFit (withoutF f.name fs)) := (ok_without HOK.out f.name).fit
                have hlo : (withoutF f.name fs).length ≤ 1048576 := by have := (ok_without HOK.out f.name).1; omega
                have HB4 : Hid (Below w.heap.size w ((w2.alloc (.cells #[.string f.name, .string f.text, .int .i64 f.kept] 55)).alloc (.cells #[.slice none 0 0] 26))) := (HB2.out.alloc HB2.out.size _).alloc (by have := HB2.out.size; simp; omega) _
                go_wp2_with fail
                refine (l03Without_any _ fs cap f.name _ (HR.out.stays HB4.out) hl).mono ?_
                rintro e w5 ⟨v5, rfl, hown5, hb5⟩
                have HQ : Shut (WCells w5 (w2.heap.size + 1) [.slice none 0 0]) := ⟨by have := (wcells_new (w2.alloc (.cells #[.string f.name, .string f.text, .int .i64 f.kept] 55)) #[.slice none 0 0] 26).grow hb5; simpa using this⟩
                have HY : Shut (WCells w5 (w.heap.size + 1 + 1) [.slice none 0 0]) := ⟨((HY2.out.alloc _).alloc _).grow hb5⟩
                have HB : Hid (Below w.heap.size w w5) := HB4.out.trans (hb5.mono HB4.out.size)
                clear hb5 HB4
                obtain ⟨va, vc, rfl⟩ := own_formD hown5
                have HQ6 : Shut (WCells (w5.setCell ⟨w2.heap.size + 1, 0, none⟩ (.slice va (withoutF f.name fs).length vc)) (w2.heap.size + 1) [.slice va (withoutF f.name fs).length vc]) := ⟨HQ.out.set 0 (.slice va (withoutF f.name fs).length vc) (by simp)⟩
                have HY6 : Shut (WCells (w5.setCell ⟨w2.heap.size + 1, 0, none⟩ (.slice va (withoutF f.name fs).length vc)) (w.heap.size + 1 + 1) [.slice none 0 0]) := ⟨HY.out.other _ _ (by simp; omega)⟩
                have HB6 : Hid (Below w.heap.size w (w5.setCell ⟨w2.heap.size + 1, 0, none⟩ (.slice va (withoutF f.name fs).length vc))) := HB.out.setCell (by simp; omega) _
                have HO6 : Shut ((w5.setCell ⟨w2.heap.size + 1, 0, none⟩ (.slice va (withoutF f.name fs).length vc)).ownsRow (w2.heap.size + 2) 55 3 (.slice va (withoutF f.name fs).length vc) (withoutF f.name fs).length (fcs (withoutF f.name fs))) := ⟨own_other (own_wider hown5 (by simp)) (show w2.heap.size + 1 < w2.heap.size + 2 by omega) _ rfl _ rfl⟩
                obtain ⟨qc5, qf5⟩ := HQ.out.2 0 _ rfl
                clear hown5 HY HQ HB
                generalize hOUT : withoutF f.name fs = out at *
                clear hOUT
                go_wp2_with fail
                refine (specDiskOk va out vc _ (FRw.of_own HO6.out).1.crow HFO.out hlo).mono ?_
                generalize hD2 : dOkB out = D2
                rintro e w7 ⟨rfl, hb7⟩
                have HY7 : Shut (WCells w7 (w.heap.size + 1 + 1) [.slice none 0 0]) := ⟨HY6.out.grow hb7⟩
                have HQ7 : Shut (WCells w7 (w2.heap.size + 1) [.slice va out.length vc]) := ⟨HQ6.out.grow hb7⟩
                have HB7 : Hid (Below w.heap.size w w7) := HB6.out.trans (hb7.mono HB6.out.size)
                have HO7 : Shut (w7.ownsRow (w2.heap.size + 2) 55 3 (.slice va out.length vc) out.length (fcs out)) := ⟨own_belowD HO6.out hb7⟩
                clear hb7 HY6 HQ6 HB6 HO6
                obtain ⟨yc, yf⟩ := HY7.out.2 0 _ rfl
                obtain ⟨qc, qf⟩ := HQ7.out.2 0 _ rfl
                cases D2 with
                | false =>
                  have HE : Hid (rr = none) := HRR.out.symm.trans (doA_no fun o' ha he hd => by rw [HOA.out] at he; cases he; rw [dOkB_yes hd] at hD2; cases hD2)
                  clear hD2
                  go_wp2_with fail
                  refine bodyPost_ret (v := .tuple #[.agg #[.slice none 0 0], .bool false]) (by simp [results, Try.results23, go_sem, yc]) rfl ?_
                  rw [HE.out]
                  exact ⟨none, 0, rfl, .inl ⟨rfl, rfl⟩, Nat.le_refl _, HB7.out.setCell (by simp; omega) _⟩
                | true =>
                  have HE : Hid (rr = some out) := HRR.out.symm.trans (doA_of HOK.out HAI.out HOA.out (by by_cases h : DOk out; exact h; rw [dOkB_no h] at hD2; cases hD2))
                  clear hD2
                  go_wp2_with fail
                  refine bodyPost_ret (v := .tuple #[.agg #[.slice va out.length vc], .bool true]) (by simp [results, Try.results23, go_sem, yc]) rfl ?_
                  rw [HE.out]
                  have ho8 := own_wider (C := w.heap.size) (own_other HO7.out (show w.heap.size + 1 + 1 < w2.heap.size + 2 by omega) ⟨w.heap.size + 1 + 1, 0, none⟩ rfl (.slice va out.length vc) rfl) (by omega)
                  obtain ⟨hf8, hc8⟩ := FRw.of_own ho8
                  exact ⟨va, vc, rfl, hf8, hc8, HB7.out.setCell (by simp; omega) _⟩
            · skip
              have HAI : Hid (ActIs ⟨k, n, ⟨#[]⟩, ⟨#[]⟩⟩) := (⟨HNB.out, fun _ => rfl, fun _ => rfl⟩ : ActIs ⟨k, n, ⟨#[]⟩, ⟨#[]⟩⟩)
              go_wp2_with fail
              refine (l03At_any a fs cap n _ (HR.out.stays HB.out) hl).mono ?_
              rintro e w2 ⟨r, rfl, hat, hb2⟩
              have M2 : Shut (Mem w w2 [(w.heap.size + 1 + 1, [.slice none 0 0]), (w.heap.size + 1, [.int .i64 k, .string n, .string ⟨#[]⟩, .string ⟨#[]⟩]), (w.heap.size, [.slice a fs.length cap])] []) := ⟨M1.out.below hb2⟩
              have HY2 : Shut (WCells w2 (w.heap.size + 1 + 1) [.slice none 0 0]) := ⟨M2.out.cells _ (List.mem_cons_self ..)⟩
              have HB2 : Hid (Below w.heap.size w w2) := M2.out.low
              have hs2 : w.heap.size + 1 + 1 < w2.heap.size := HY2.out.1
              have hsa : w.heap.size + 1 < w2.heap.size := by omega
              have hsd : w.heap.size < w2.heap.size := by omega
              have ha2 := M2.out.cells _ (List.mem_cons_of_mem _ (List.mem_cons_self ..))
              clear a0 a1 a2 a3 x1
              obtain ⟨a0, _⟩ := ha2.2 0 _ rfl
              obtain ⟨a1, _⟩ := ha2.2 1 _ rfl
              obtain ⟨a2, _⟩ := ha2.2 2 _ rfl
              obtain ⟨a3, _⟩ := ha2.2 3 _ rfl
              have x2 := M2.out.cell2
              clear hb2 ha2 M1 M2 HY HB
              rcases hat with ⟨rfl, hno⟩ | ⟨j, rfl, hj, h1, h2⟩
              · have HFN : Hid (fileOf fs n = none) := fileOf_not hno
                clear hno
                have HE : Hid (rr = none) := HRR.out.symm.trans (doA_no fun o' _ he => by rw [outA_none k1 HFN.out] at he; cases he)
                have rc := ((((HY2.out.set 0 (.slice none 0 0) (by simp)).alloc (.cells #[.string n, .string ⟨#[]⟩, .int .i64 0] 55)).alloc (.cells #[.slice none 0 0] 26)).2 0 _ rfl).1
                obtain ⟨yc, yf⟩ := HY2.out.2 0 _ rfl
                go_wp2_with fail
                refine bodyPost_ret (v := .tuple #[.agg #[.slice none 0 0], .bool false]) (by simp [results, Try.results23, go_sem, rc]) rfl ?_
                rw [HE.out]
                exact ⟨none, 0, rfl, .inl ⟨rfl, rfl⟩, Nat.le_refl _, ((HB2.out.setCell (by simp; omega) _).alloc (by have := HB2.out.size; simp [World.setCell]; omega) _).alloc (by have := HB2.out.size; simp [World.setCell]; omega) _⟩
              · have HFN : Hid (fileOf fs n = some (fs.getD j default)) := fileOf_at hj h1 h2
                obtain ⟨b, off, rfl, lb, hc⟩ := FRow.at (HR.out.stays HB2.out) (by omega)
                obtain ⟨d0, d1, d2⟩ := hc j hj
                have hfo := HOK.out.ok fs[j] (List.getElem_mem hj)
                rw [← getD_atF fs j hj] at d0 d1 d2 hfo
                generalize fs.getD j default = f at *
                subst h1
                have hft := hfo.2.1
                have hfk0 := hfo.2.2.1
                have hfk1 := hfo.2.2.2
                have j0 : (0 : Int) ≤ (j : Int) := by omega
                have j1 : (j : Int) < (fs.length : Int) := by omega
                clear hc h2 hfo
                have HE : Hid (rr = none) := HRR.out.symm.trans (doA_kind ⟨k1, k2, k3, k4⟩)
                have rc := ((((HY2.out.set 0 (.slice none 0 0) (by simp)).alloc (.cells #[.string f.name, .string f.text, .int .i64 f.kept] 55)).alloc (.cells #[.slice none 0 0] 26)).2 0 _ rfl).1
                obtain ⟨yc, yf⟩ := HY2.out.2 0 _ rfl
                go_wp2_with fail
                refine bodyPost_ret (v := .tuple #[.agg #[.slice none 0 0], .bool false]) (by simp [results, Try.results23, go_sem, rc]) rfl ?_
                rw [HE.out]
                exact ⟨none, 0, rfl, .inl ⟨rfl, rfl⟩, Nat.le_refl _, ((HB2.out.setCell (by simp; omega) _).alloc (by have := HB2.out.size; simp [World.setCell]; omega) _).alloc (by have := HB2.out.size; simp [World.setCell]; omega) _⟩
        · have hte := not_empty ht0
          have HE : Hid (rr = none) := HRR.out.symm.trans (doA_wrong (.inl ⟨k1, ht0⟩))
          clear M1 x1
          clear ht0 k1 k3
          obtain ⟨yc, yf⟩ := HY.out.2 0 _ rfl
          go_wp2_with fail
          refine bodyPost_ret (v := .tuple #[.agg #[.slice none 0 0], .bool false]) (by simp [results, Try.results23, go_sem, yc]) rfl ?_
          rw [HE.out]
          exact ⟨none, 0, rfl, .inl ⟨rfl, rfl⟩, Nat.le_refl _, HB.out.setCell (by simp; omega) _⟩
      · have hoe := not_empty ho0
        have HE : Hid (rr = none) := HRR.out.symm.trans (doA_wrong (.inr ⟨k3, ho0⟩))
        clear M1 x1
        clear ho0 k1 k3
        obtain ⟨yc, yf⟩ := HY.out.2 0 _ rfl
        go_wp2_with fail
        refine bodyPost_ret (v := .tuple #[.agg #[.slice none 0 0], .bool false]) (by simp [results, Try.results23, go_sem, yc]) rfl ?_
        rw [HE.out]
        exact ⟨none, 0, rfl, .inl ⟨rfl, rfl⟩, Nat.le_refl _, HB.out.setCell (by simp; omega) _⟩
end Go.Proofs.Ytplcdcfhfaghiaa
/- SpE: The model's walk: an act. -/
namespace Go.Proofs.Ytplcdcfhfaghiaa
set_option maxRecDepth 100000
open Go.RowKit

theorem specDoAct (a : Option Addr) (fs : List FM) (x : AM) (cap : Nat) (w : World) (hr : FRow w a fs) (hf : FFit fs) (hl : fs.length ≤ 1048576) (hn : x.name.size ≤ 9223372036854775807) (ht : x.text.size ≤ 1048576) (ho : x.dst.size ≤ 9223372036854775807) :
    Calls Try.prog 23 #[.agg #[.slice a fs.length cap], av x] w fun e w' => DiskPost ((doA fs x).getD []) (.bool (doA fs x).isSome) w e w' := by
  by_cases k1 : x.kind = 1
  · exact specDoAct_add a fs x cap w hr hf hl hn ht ho k1
  · by_cases k3 : x.kind = 3
    · exact specDoAct_move a fs x cap w hr hf hl hn ht ho k3
    · exact specDoAct_else a fs x cap w hr hf hl hn ht ho k1 k3
end Go.Proofs.Ytplcdcfhfaghiaa
/- SpF: The model's walk: acts, one behind the other. -/
namespace Go.Proofs.Ytplcdcfhfaghiaa
set_option maxRecDepth 100000
open Go.RowKit
attribute [local go_sem ↓] Go.wp_at_zero Go.wp_at_succ

theorem one_fcs (fs : List FM) : ∀ u ∈ fcs fs, u.oneCell' = true := by
  intro u hu
  obtain ⟨f, _, h⟩ := List.mem_flatMap.1 hu
  simp [fcells] at h
  rcases h with rfl | rfl | rfl <;> rfl
/-- Through the call of an act. -/
def SA (w0 w : World) (q : Nat) (v : Value) (b o1 o2 o3 o4 : Nat) (x : AM) (L : List (Nat × List Value)) (R : List (Option Addr × List Value × Nat × Nat)) : Prop :=
  w.cell? ⟨q, 0, none⟩ = some v ∧ w.cell? ⟨b, o1, none⟩ = some (.int .i64 x.kind) ∧ w.cell? ⟨b, o2, none⟩ = some (.string x.name) ∧ w.cell? ⟨b, o3, none⟩ = some (.string x.text) ∧ w.cell? ⟨b, o4, none⟩ = some (.string x.dst) ∧ Shut (Mem w0 w L R)
theorem SA.below {w0 w w' : World} {q : Nat} {v : Value} {b o1 o2 o3 o4 : Nat} {x : AM} {L : List (Nat × List Value)} {R : List (Option Addr × List Value × Nat × Nat)} (h : SA w0 w q v b o1 o2 o3 o4 x L R) (hb : Below w.heap.size w w') : SA w0 w' q v b o1 o2 o3 o4 x L R :=
  ⟨(hb.cell (p := ⟨q, 0, none⟩) (cell_lt h.1)).trans h.1, (hb.cell (p := ⟨b, o1, none⟩) (cell_lt h.2.1)).trans h.2.1, (hb.cell (p := ⟨b, o2, none⟩) (cell_lt h.2.2.1)).trans h.2.2.1, (hb.cell (p := ⟨b, o3, none⟩) (cell_lt h.2.2.2.1)).trans h.2.2.2.1, (hb.cell (p := ⟨b, o4, none⟩) (cell_lt h.2.2.2.2.1)).trans h.2.2.2.2.1, ⟨h.2.2.2.2.2.out.below hb⟩⟩
theorem SA.alloc {w0 w : World} {q : Nat} {v : Value} {b o1 o2 o3 o4 : Nat} {x : AM} {L : List (Nat × List Value)} {R : List (Option Addr × List Value × Nat × Nat)} (h : SA w0 w q v b o1 o2 o3 o4 x L R) (o : Obj) : SA w0 (w.alloc o) q v b o1 o2 o3 o4 x L R := h.below ((Below.refl _ _).alloc (Nat.le_refl _) o)
theorem Mem.setNew {w0 w : World} {L : List (Nat × List Value)} {R : List (Option Addr × List Value × Nat × Nat)} (M : Mem w0 w L R) (a : Addr) (u : Value) (h0 : w0.heap.size ≤ a.block) (hL : ∀ p ∈ L, p.1 ≠ a.block) (hR : ∀ r ∈ R, a.block < r.2.2.1 ∨ r.2.2.2 ≤ a.block) : Mem w0 (w.setCell a u) L R := by
  refine ⟨fun p hp => (M.cells p hp).other _ _ (hL p hp), fun r hr => ?_, M.low.setCell h0 u⟩
  rcases M.rows r hr with h | ⟨g, h1, h2, h3, h4⟩
  · exact .inl h
  · exact .inr ⟨g, h1, h2, h3, h4.other _ _ (by rcases hR r hr with h | h <;> omega)⟩
theorem SA.set {w0 w : World} {q : Nat} {v : Value} {b o1 o2 o3 o4 : Nat} {x : AM} {L : List (Nat × List Value)} {R : List (Option Addr × List Value × Nat × Nat)} {a : Addr} (h : SA w0 w q v b o1 o2 o3 o4 x L R) (u : Value) (h0 : w0.heap.size ≤ a.block) (h1 : a.block ≠ q) (h2 : a.block ≠ b) (hL : ∀ p ∈ L, p.1 ≠ a.block) (hR : ∀ r ∈ R, a.block < r.2.2.1 ∨ r.2.2.2 ≤ a.block) : SA w0 (w.setCell a u) q v b o1 o2 o3 o4 x L R := by
  have oth : ∀ c : Addr, a.block ≠ c.block → (w.setCell a u).cell? c = w.cell? c := fun c hc => World.cell?_of_block (Below.heap_setCell w a u c.block (fun e => hc e.symm))
  exact ⟨(oth _ h1).trans h.1, (oth _ h2).trans h.2.1, (oth _ h2).trans h.2.2.1, (oth _ h2).trans h.2.2.2.1, (oth _ h2).trans h.2.2.2.2.1, ⟨h.2.2.2.2.2.out.setNew a u h0 hL hR⟩⟩
theorem FRw.wide {w : World} {va : Option Addr} {X : List Value} {lo lo' hi : Nat} (h : FRw w va X lo hi) (hl : lo' ≤ lo) : FRw w va X lo' hi := by
  rcases h with h | ⟨g, h1, h2, h3, h4⟩
  · exact .inl h
  · exact .inr ⟨g, h1, by omega, h3, h4⟩
theorem Mem.wide {w0 w : World} {L : List (Nat × List Value)} {R : List (Option Addr × List Value × Nat × Nat)} {va : Option Addr} {X : List Value} {lo lo' hi : Nat} (M : Mem w0 w L ((va, X, lo, hi) :: R)) (hl : lo' ≤ lo) : Mem w0 w L ((va, X, lo', hi) :: R) := by
  refine ⟨M.cells, fun r hr => ?_, M.low⟩
  rcases List.mem_cons.1 hr with rfl | h
  · exact M.at0.wide hl
  · exact M.rows r (List.mem_cons_of_mem _ h)
theorem Mem.setBox {w0 w : World} {L : List (Nat × List Value)} {R : List (Option Addr × List Value × Nat × Nat)} (M : Mem w0 w L R) {g : Nat} {u : Value} (hg : WCells w g [u]) (v : Value) (h0 : w0.heap.size ≤ g) (hL : ∀ p ∈ L, p.1 ≠ g) (hR : ∀ r ∈ R, g < r.2.2.1 ∨ r.2.2.2 ≤ g) : Mem w0 (w.setCell ⟨g, 0, none⟩ v) ((g, [v]) :: L) R := by
  have M' := M.setNew ⟨g, 0, none⟩ v h0 hL hR
  refine ⟨fun p hp => ?_, M'.rows, M'.low⟩
  rcases List.mem_cons.1 hp with rfl | h
  · exact hg.set 0 v (by simp)
  · exact M'.cells p h
theorem SA.drew {w0 w : World} {q : Nat} {v : Value} {b o1 o2 o3 o4 : Nat} {x : AM} {L : List (Nat × List Value)} {R : List (Option Addr × List Value × Nat × Nat)} (h : SA w0 w q v b o1 o2 o3 o4 x L R) : SA w0 w.drew q v b o1 o2 o3 o4 x L R := ⟨h.1, h.2.1, h.2.2.1, h.2.2.2.1, h.2.2.2.2.1, ⟨h.2.2.2.2.2.out.drew⟩⟩
theorem SA.row {w0 w : World} {q : Nat} {v : Value} {b o1 o2 o3 o4 : Nat} {x : AM} {L : List (Nat × List Value)} {R : List (Option Addr × List Value × Nat × Nat)} {va : Option Addr} {X : List Value} {lo hi : Nat} (h : SA w0 w q v b o1 o2 o3 o4 x L ((va, X, lo, hi) :: R)) : CRow w va X := h.2.2.2.2.2.out.at0.crow
theorem specDoActR {fs : List FM} {x : AM} {r : Option (List FM)} (hr' : doA fs x = r) (a : Option Addr) (cap : Nat) (w : World) (hr : FRow w a fs) (hf : FFit fs) (hl : fs.length ≤ 1048576) (hn : x.name.size ≤ 9223372036854775807) (ht : x.text.size ≤ 1048576) (ho : x.dst.size ≤ 9223372036854775807) :
    Calls Try.prog 23 #[.agg #[.slice a fs.length cap], av x] w fun e w' => DiskPost (r.getD []) (.bool r.isSome) w e w' := hr' ▸ specDoAct a fs x cap w hr hf hl hn ht ho
theorem fit_cur {fs cur : List FM} (hf : FFit fs) (hl : fs.length ≤ 1048576) (h : cur = fs ∨ DOk cur) : FFit cur ∧ cur.length ≤ 1048576 := by
  rcases h with rfl | h
  · exact ⟨hf, hl⟩
  · exact ⟨h.fit, by have := h.1; omega⟩
set_option maxHeartbeats 2000000 in
set_option maxRecDepth 100000 in
theorem specDoActs (g : Nat) (c : Option Addr) (fs : List FM) (xs : List AM) (cap capx : Nat) (w : World) (hg : WCells w g (fcs fs)) (hf : FFit fs) (hl : fs.length ≤ 1048576) (hx : ARow w c xs) (hxg : AGood xs) (hxl : xs.length ≤ 1048576) :
    Calls Try.prog 7 #[.agg #[.slice (some ⟨g, 0, none⟩) fs.length cap], .slice c xs.length capx] w fun e w' => DiskPost (doAs fs xs).1 (.int .i64 ((doAs fs xs).2 : Nat)) w e w' := by
  obtain ⟨i0, hi, hz0, hz1, hz2⟩ := info_parts infoFile
  have HF : Hid (FFit fs) := hf
  have HXR : Hid (ARow w c xs) := hx
  have HXG : Hid (AGood xs) := hxg
  have hgl := hg.1
  have m0 : Mem w w [] [] := ⟨by simp, by simp, Below.refl _ _⟩
  have m1 := (m0.box #[.slice (some ⟨g, 0, none⟩) fs.length cap] 26).box #[.slice none 0 0] 26
  have m2 := m1.alloc (.cells #[] 55)
  simp only [World.size_alloc] at m2
  have M2 : Shut (Mem w (((w.alloc (.cells #[.slice (some ⟨g, 0, none⟩) fs.length cap] 26)).alloc (.cells #[.slice none 0 0] 26)).alloc (.cells #[] 55)) [(w.heap.size + 1, [.slice none 0 0]), (w.heap.size, [.slice (some ⟨g, 0, none⟩) fs.length cap])] []) := ⟨m2⟩
  have hown0 : (((w.alloc (.cells #[.slice (some ⟨g, 0, none⟩) fs.length cap] 26)).alloc (.cells #[.slice none 0 0] 26)).alloc (.cells #[] 55)).ownsRow (w.heap.size + 2) 55 3 (.slice (some ⟨w.heap.size + 1 + 1, 0, none⟩) 0 0) 0 [] := by
    have := World.ownsRow_made (base := w.heap.size + 2) (e := 55) (size := 3) ((w.alloc (.cells #[.slice (some ⟨g, 0, none⟩) fs.length cap] 26)).alloc (.cells #[.slice none 0 0] 26)) #[] 0 (by simp) (by unfold maxLen; omega) (by simp)
    simpa using this
  have hsrc : ∀ j u, (fcs fs)[j]? = some u → (((w.alloc (.cells #[.slice (some ⟨g, 0, none⟩) fs.length cap] 26)).alloc (.cells #[.slice none 0 0] 26)).alloc (.cells #[] 55)).cell? ((⟨g, 0, none⟩ : Addr).add j) = some u := by
    intro j u hu
    have e : (⟨g, 0, none⟩ : Addr).add j = ⟨g, j, none⟩ := by cases j <;> simp [Addr.add]
    rw [e]
    exact ((((hg.alloc _).alloc _).alloc _).2 j u hu).1
  generalize hrr : doAs fs xs = rr
  have HRR : Hid (doAs fs xs = rr) := hrr
  clear hf hx hxg m0 m1 m2 hrr hg
  go_enter Try.func7, Try.ntmps7
  go_wp2_with (at_builtin; refine wpList_append_own _ rfl _ _ 24 rfl (w.heap.size + 2) 55 i0 _ 3 40 Try.underlying24 hi hz0 hz1 hz2 rfl (by decide) _ _ _ rfl hown0 ⟨g, 0, none⟩ fs.length cap (fcs fs) rfl (fcs_len fs) hsrc (one_fcs fs) (by unfold maxLen; omega) (by omega) (by simp) ?_; intro v3 w3 hown3 hg3 hn3; have hown4 : w3.ownsRow (w.heap.size + 2) 55 3 v3 fs.length (fcs fs) := (by simpa using hown3); obtain ⟨va3, vc3, rfl⟩ := own_formD hown4; clear hown3)
  have hm3 : Mem w w3 [(w.heap.size + 1, [.slice none 0 0])] [(va3, fcs fs, w.heap.size + 2, w3.heap.size)] := by
    have h1 : Mem w w3 [(w.heap.size + 1, [.slice none 0 0])] [] := ((M2.out.less (L' := [(w.heap.size + 1, [.slice none 0 0])]) (R' := []) (by simp) (by simp)).grown hg3 (fun p hp g' e => by have := (hown0.lt g' e).1; simp at hp; subst hp; simp; omega) (by simp) (fun g' e => by have := (hown0.lt g' e).1; omega))
    refine h1.row ?_
    rcases (FRw.of_own hown4).1 with h | ⟨g', e1, e2, e3, e4⟩
    · exact .inl h
    · exact .inr ⟨g', e1, by omega, e3, e4⟩
  have hs3 : w.heap.size + 1 < w3.heap.size := hm3.lt0
  have hvc3 : fs.length ≤ vc3 := (FRw.of_own hown4).2
  have hm4 := hm3.box #[.slice va3 fs.length vc3] 26
  have HM4 : Shut (Mem w (w3.alloc (.cells #[.slice va3 fs.length vc3] 26)) [(w3.heap.size, [.slice va3 fs.length vc3]), (w.heap.size + 1, [.slice none 0 0])] [(va3, fcs fs, w.heap.size + 2, w3.heap.size)]) := ⟨hm4⟩
  clear hm3 hm4 hown4 hg3 M2 hown0 hsrc hn3
  go_loopw [7] (fun v wr => ∃ (k hi vc : Nat) (va : Option Addr) (cur : List FM), v = .int .i64 k ∧ k ≤ xs.length ∧ Shut (Ran fs xs k cur ∧ (cur = fs ∨ DOk cur)) ∧ cur.length ≤ vc ∧ hi ≤ wr.heap.size ∧ Shut (Mem w wr [(w3.heap.size, [.slice va cur.length vc]), (w.heap.size + 1, [.slice none 0 0])] [(va, fcs cur, w.heap.size + 2, hi)])) (fun v _ => xs.length - (intOf v).toNat)
  case atStart => exact ⟨0, w3.heap.size, vc3, va3, fs, rfl, Nat.zero_le _, ⟨Ran.start fs xs, .inl rfl⟩, hvc3, by simp, HM4⟩
  case round =>
    clear HM4 hvc3
    obtain ⟨k, hi', vc, va, cur, rfl, hk, hran, hvc, hhi, HM⟩ := hrel
    obtain ⟨hfit, hcl⟩ := fit_cur HF.out hl hran.out.2
    have HFC : Hid (FFit cur) := hfit
    clear hfit
    by_cases hlt : k < xs.length
    · obtain ⟨bx, off, rfl, lb, hc⟩ := ARow.at (HXR.out.stays HM.out.low) (by omega)
      have lb0 : bx < w.heap.size := by
        obtain ⟨b', o', e', l', _⟩ := ARow.at HXR.out (by omega)
        simp at e'; omega
      obtain ⟨d0, d1, d2, d3⟩ := hc k hlt
      have hgood := HXG.out xs[k] (List.getElem_mem hlt)
      have HST : Hid (∀ o, doA cur xs[k] = some o → Ran fs xs (k + 1) o) := fun o ho => hran.out.1.step hlt ho
      have HSP : Hid (doA cur xs[k] = none → doAs fs xs = (cur, k)) := fun ho => hran.out.1.stop hlt ho
      obtain ⟨x, hxe⟩ : ∃ x, x = xs[k] := ⟨_, rfl⟩
      rw [← hxe] at d0 d1 d2 d3 hgood HST HSP
      obtain ⟨g1, g2, g3⟩ := hgood
      have x0 := HM.out.cell0
      have hSA : Shut (SA w wr w3.heap.size (.slice va cur.length vc) bx (off + k * 4) (off + k * 4 + 1) (off + k * 4 + 2) (off + k * 4 + 3) x [(w3.heap.size, [.slice va cur.length vc]), (w.heap.size + 1, [.slice none 0 0])] [(va, fcs cur, w.heap.size + 2, hi')]) := ⟨⟨x0, d0, d1, d2, d3, HM⟩⟩
      have k0 : (0 : Int) ≤ (k : Int) := by omega
      have k1 : (k : Int) < (xs.length : Int) := by omega
      have hw3 := HM.out.lt0
      clear hxe hc hran HM
      generalize hre : doA cur x = r at HST HSP
      have HRE : Hid (doA cur x = r) := hre
      clear hre
      go_upto_region 5 with fail
      go_cut [8, 9] from 15 to 34 (fun u8 u9 wx => ∃ (nb hi2 vc' : Nat) (va' : Option Addr), u8 = .pointer (some ⟨nb, 0, none⟩) ∧ u9 = .bool r.isSome ∧ (r.getD []).length ≤ vc' ∧ hi2 ≤ wx.heap.size ∧ hi' ≤ wx.heap.size ∧ nb ≠ w3.heap.size ∧ Shut (Mem w wx [(nb, [.slice va' (r.getD []).length vc']), (w3.heap.size, [.slice va cur.length vc]), (w.heap.size + 1, [.slice none 0 0])] [(va', fcs (r.getD []), w3.heap.size + 1, hi2), (va, fcs cur, w.heap.size + 2, hi')]))
      case first =>
        go_region_held3 (fun w' => w'.cell? ⟨w3.heap.size, 0, none⟩ = some (.slice va cur.length vc) ∧ w'.cell? ⟨bx, off + k * 4, none⟩ = some (.int .i64 x.kind) ∧ w'.cell? ⟨bx, off + k * 4 + 1, none⟩ = some (.string x.name) ∧ w'.cell? ⟨bx, off + k * 4 + 2, none⟩ = some (.string x.text) ∧ w'.cell? ⟨bx, off + k * 4 + 3, none⟩ = some (.string x.dst) ∧ Shut (Mem w w' [(w3.heap.size, [.slice va cur.length vc]), (w.heap.size + 1, [.slice none 0 0])] [(va, fcs cur, w.heap.size + 2, hi')]))
          (first | assumption | (exact SA.below (x := x) (by assumption) hb6) | (exact SA.alloc (x := x) hS6.out _) | (exact SA.alloc (x := x) (by assumption) _) | (exact hSA.out.drew) | (exact SA.set (x := x) hS6.out _ (by simp; omega) (by simp; omega) (by simp; omega) (by simp; omega) (by simp; omega)))
          (first
            | (go_at_call 23; refine (specDoActR (r := r) HRE.out va vc _ (SA.row (x := x) (by assumption)) HFC.out hcl g1 g2 g3).mono ?_; rintro e w6 ⟨va6, vc6, rfl, hf6, hc6, hb6⟩; have hS6 : Shut (SA w w6 w3.heap.size (.slice va cur.length vc) bx (off + k * 4) (off + k * 4 + 1) (off + k * 4 + 2) (off + k * 4 + 3) x [(w3.heap.size, [.slice va cur.length vc]), (w.heap.size + 1, [.slice none 0 0])] [(va, fcs cur, w.heap.size + 2, hi')]) := ⟨SA.below (x := x) (by assumption) hb6⟩; (try (have hz : w6.cell? ⟨wr.heap.size, 0, none⟩ = some (.slice none 0 0) ∧ w6.frozen? ⟨wr.heap.size, 0, none⟩ = false := (WCells.grow (w := wr.drew.alloc (.cells #[.slice none 0 0] 26)) (wcells_new wr.drew #[.slice none 0 0] 26) hb6).2 0 _ rfl; obtain ⟨z0, z1⟩ := hz; have hZ : Shut (WCells w6 wr.heap.size [.slice none 0 0]) := ⟨WCells.grow (w := wr.drew.alloc (.cells #[.slice none 0 0] 26)) (wcells_new wr.drew #[.slice none 0 0] 26) hb6⟩))))
        all_goals
          have hs6 := hb6.size
          simp at hs6
          go_wp2_with fail
          go_meet
        all_goals
          first
            | exact ⟨w6.heap.size, w6.heap.size, vc6, va6, rfl, rfl, hc6, by simp, by simp; omega, by omega, ⟨(hS6.out.2.2.2.2.2.out.row (hf6.wide (by simp; omega))).box #[.slice va6 (r.getD []).length vc6] 26⟩⟩
            | exact ⟨wr.heap.size, w6.heap.size, vc6, va6, rfl, rfl, hc6, by simp [World.setCell], by simp [World.setCell]; omega, by omega, ⟨((hS6.out.2.2.2.2.2.out.row hf6).setBox hZ.out _ (by omega) (by simp; omega) (by simp; omega)).wide (by simp; omega)⟩⟩
      case rest =>
        obtain ⟨nb, hi2, vc', va', rfl, rfl, hvc', hhi2, hhi3, hnb, HM⟩ := hcut
        have x9 := HM.out.cell0
        have y9 := HM.out.cells _ (List.mem_cons_of_mem _ (List.mem_cons_self ..))
        obtain ⟨y0, y1⟩ := y9.2 0 _ rfl
        have z9 := HM.out.cells _ (List.mem_cons_of_mem _ (List.mem_cons_of_mem _ (List.mem_cons_self ..)))
        obtain ⟨z0, z1⟩ := z9.2 0 _ rfl
        have hs9 := HM.out.lt1
        clear hSA x0 d0 d1 d2 d3 y9 z9
        cases r with
        | none =>
          have HEQ : Hid (rr = (cur, k)) := HRR.out.symm.trans (HSP.out rfl)
          have HM' : Shut (Mem w wc [(w3.heap.size, [.slice va cur.length vc]), (w.heap.size + 1, [.slice none 0 0])] [(va, fcs cur, w.heap.size + 2, hi')]) := ⟨HM.out.less (fun _ h => List.mem_cons_of_mem _ h) (fun _ h => List.mem_cons_of_mem _ h)⟩
          clear HM x9 y0 y1 z0 z1
          have HM := HM'
          clear HM'
          obtain ⟨qc, qf⟩ := (HM.out.cells _ (List.mem_cons_self ..)).2 0 _ rfl
          obtain ⟨yc, yf⟩ := (HM.out.cells _ (List.mem_cons_of_mem _ (List.mem_cons_self ..))).2 0 _ rfl
          go_wp2_with fail
          show bodyPost Try.prog Try.f7 _ Exit.ret _ _
          refine bodyPost_ret (v := .tuple #[.agg #[.slice va cur.length vc], .int .i64 (k : Nat)]) (by simp [results, Try.results7, go_sem, yc]) rfl ?_
          rw [HEQ.out]
          refine ⟨va, vc, rfl, ?_, hvc, HM.out.low.setCell (by simp) _⟩
          rcases HM.out.at0 with h | ⟨g', e1, e2, e3, e4⟩
          · exact .inl h
          · exact .inr ⟨g', e1, by omega, by have := e4.1; simp [World.setCell]; omega, e4.other _ _ (by simp; omega)⟩
        | some o =>
          have HOO : Shut (Ran fs xs (k + 1) o ∧ (o = fs ∨ DOk o)) := ⟨HST.out o rfl, .inr (doA_ok HRE.out)⟩
          have HM' : Shut (Mem w (wc.setCell ⟨w3.heap.size, 0, none⟩ (.slice va' o.length vc')) [(w3.heap.size, [.slice va' o.length vc']), (w.heap.size + 1, [.slice none 0 0])] [(va', fcs o, w.heap.size + 2, hi2)]) := ⟨(HM.out.less (L' := [(w.heap.size + 1, [.slice none 0 0])]) (R' := [(va', fcs o, w3.heap.size + 1, hi2)]) (by simp) (by simp)).setBox (HM.out.cells _ (List.mem_cons_of_mem _ (List.mem_cons_self ..))) _ (by omega) (by simp; omega) (by simp) |>.wide (by omega)⟩
          clear HM
          go_wp2_with fail
          go_roundw
          case rel => exact ⟨k + 1, hi2, vc', va', o, by go_num, by omega, HOO, hvc', by simpa [World.setCell] using hhi2, HM'⟩
          case measure => simp [intOf]; omega
    · have e : k = xs.length := by omega
      subst e
      have HEQ : Hid (rr = (cur, xs.length)) := HRR.out.symm.trans hran.out.1.all
      clear hran
      obtain ⟨qc, qf⟩ := (HM.out.cells _ (List.mem_cons_self ..)).2 0 _ rfl
      obtain ⟨yc, yf⟩ := (HM.out.cells _ (List.mem_cons_of_mem _ (List.mem_cons_self ..))).2 0 _ rfl
      go_wp2_with fail
      show bodyPost Try.prog Try.f7 _ Exit.ret _ _
      refine bodyPost_ret (v := .tuple #[.agg #[.slice va cur.length vc], .int .i64 (xs.length : Nat)]) (by simp [results, Try.results7, go_sem, yc]) rfl ?_
      rw [HEQ.out]
      refine ⟨va, vc, rfl, ?_, hvc, HM.out.low.setCell (by simp) _⟩
      rcases HM.out.at0 with h | ⟨g', e1, e2, e3, e4⟩
      · exact .inl h
      · exact .inr ⟨g', e1, by omega, by have := e4.1; simp [World.setCell]; omega, e4.other _ _ (by simp; omega)⟩
end Go.Proofs.Ytplcdcfhfaghiaa
/- DrSq: A row of one's own among stretches, and stretches left out. -/
namespace Go.Proofs.Ytplcdcfhfaghiaa
set_option maxRecDepth 100000
open Go.RowKit

section
variable {w0 W W' : World} {g B len cap ty sz n : Nat} {a : Option Addr} {S S' : List Str} {s : Str} {v : Value} {L : List Value}
theorem SL.sub (h : SL w0 W S) (hs : S'.Sublist S) : SL w0 W S' := ⟨h.bel, fun s k => h.is s (hs.subset k), h.apart.sublist hs⟩
theorem SD.sub (h : SD w0 W g B a len cap S) (hs : S'.Sublist S) : SD w0 W g B a len cap S' := ⟨h.sl.sub hs, h.cur, fun s k => h.far s (hs.subset k), h.hg, h.hB⟩
theorem SO.sub (h : SO w0 W g B a len cap S ty sz v n L) (hs : S'.Sublist S) : SO w0 W g B a len cap S' ty sz v n L :=
  ⟨⟨h.ow.sl.sub hs, h.ow.own, fun q e s k => h.ow.far q e s (hs.subset k)⟩, h.cur, fun s k => h.far s (hs.subset k), h.gne, h.hg, h.hB⟩
theorem SO.perm (h : SO w0 W g B a len cap S ty sz v n L) (hs : S.Perm S') : SO w0 W g B a len cap S' ty sz v n L :=
  ⟨⟨⟨h.ow.sl.bel, fun s k => h.ow.sl.is s (hs.mem_iff.2 k), (hs.pairwise_iff fun q => q.symm).1 h.ow.sl.apart⟩, h.ow.own, fun q e s k => h.ow.far q e s (hs.mem_iff.2 k)⟩, h.cur, fun s k => h.far s (hs.mem_iff.2 k), h.gne, h.hg, h.hB⟩
theorem SO.add (h : SO w0 W g B a len cap S ty sz v n L) (hb : Below W.heap.size W W') (hp : s.p W') (hl : s.Loc) (h1 : W.heap.size ≤ s.lo) (h2 : s.hi ≤ W'.heap.size) : SO w0 W' g B a len cap (s :: S) ty sz v n L :=
  ⟨h.ow.add hb hp hl h1 h2, h.cur.below hb, (h.sd.add hb hp hl h1 h2).far, h.gne, h.hg, h.hB⟩
/-- A row of one's own as a stretch. -/
abbrev ozS (ty sz : Nat) (v : Value) (n : Nat) (L : List Value) (lo hi : Nat) : Str := ⟨fun W => W.ownsRow lo ty sz v n L ∧ ∀ q, v.ownBlock = some q → q < hi, lo, hi⟩
theorem ozS.loc (ty sz : Nat) (v : Value) (n : Nat) (L : List Value) (lo hi : Nat) : (ozS ty sz v n L lo hi).Loc := fun W W' l h hp t hd => by
  refine ⟨?_, hp.2⟩
  rcases hp.1.2 with ⟨e, e0⟩ | ⟨g, cap, cur, e, hb, hg, r⟩
  · exact ⟨hp.1.1, .inl ⟨e, e0⟩⟩
  · have hgh : g < h ∨ h ≤ g := Nat.lt_or_ge _ _
    have hq := hp.2 g (by rw [e]; rfl)
    have hgs : g < W.heap.size := (hp.1.lt g (by rw [e]; rfl)).2
    refine ⟨hp.1.1, .inr ⟨g, cap, cur, e, hb, ?_, r⟩⟩
    rw [← hg]
    exact t.block g hgs (by dsimp only [ozS] at hd; omega)
theorem SO.beside (h : SO w0 W g B a len cap S ty sz v n L) {lo hi : Nat} {p : World → Prop} (hp : p W) (hl : Str.Loc ⟨p, lo, hi⟩) (h1 : w0.heap.size ≤ lo) (h2 : hi ≤ W.heap.size) (h3 : ∀ s ∈ S, hi ≤ s.lo ∨ s.hi ≤ lo) (h4 : hi ≤ g ∨ g < lo) : SD w0 W g B a len cap (⟨p, lo, hi⟩ :: S) :=
  ⟨⟨h.ow.sl.bel, fun s hs => by
    rcases List.mem_cons.1 hs with rfl | hs
    · exact ⟨hp, hl, h1, h2⟩
    · exact h.ow.sl.is s hs, List.pairwise_cons.2 ⟨h3, h.ow.sl.apart⟩⟩, h.cur, fun s hs => by
    rcases List.mem_cons.1 hs with rfl | hs
    · exact h4
    · exact h.far s hs, h.hg, h.hB⟩
theorem SO.pack (h : SO w0 W g B a len cap S ty sz v n L) : ∃ lo hi, SD w0 W g B a len cap (ozS ty sz v n L lo hi :: S) := by
  obtain ⟨o1, o2⟩ := h.ow.own
  rcases o2 with ⟨e, e0⟩ | ⟨q, c, cur, e, hb, hq, r⟩
  · exact ⟨W.heap.size, W.heap.size, h.beside ⟨⟨o1, .inl ⟨e, e0⟩⟩, fun q eq => by subst e; cases eq⟩ (ozS.loc _ _ _ _ _ _ _) h.ow.sl.bel.size (Nat.le_refl _) (fun s hs => .inr (h.ow.sl.is s hs).2.2.2) (.inr h.cur.2.1)⟩
  · have eb : v.ownBlock = some q := by rw [e]; rfl
    have hlt := h.ow.lt q eb
    have hne : q ≠ g := fun e2 => h.gne (by rw [eb, e2])
    exact ⟨q, q + 1, h.beside ⟨⟨o1, .inr ⟨q, c, cur, e, Nat.le_refl _, hq, r⟩⟩, fun q' eq => by rw [eb] at eq; cases eq; omega⟩ (ozS.loc _ _ _ _ _ _ _) hlt.1 hlt.2 (fun s hs => by have := h.ow.far q eb s hs; omega) (by omega)⟩
theorem SD.unpack {lo hi : Nat} (h : SD w0 W g B a len cap (ozS ty sz v n L lo hi :: S)) : SO w0 W g B a len cap S ty sz v n L := by
  obtain ⟨⟨ho, hq⟩, -, h1, -⟩ := h.sl.is _ (List.mem_cons_self ..)
  have hd := h.far _ (List.mem_cons_self ..)
  dsimp only [ozS] at h1 hd
  refine ⟨⟨h.sl.tail, ?_, fun q e s hs => ?_⟩, h.cur, fun s hs => h.far s (List.mem_cons_of_mem _ hs), fun e => ?_, h.hg, h.hB⟩
  · obtain ⟨o1, o2⟩ := ho
    exact ⟨o1, o2.imp id fun ⟨g', c', cur', e, hb', r⟩ => ⟨g', c', cur', e, Nat.le_trans h1 hb', r⟩⟩
  · have k1 := (ho.lt q e).1
    have k2 := hq q e
    have := (List.pairwise_cons.1 h.sl.apart).1 s hs
    dsimp only [ozS] at this
    omega
  · have k1 := (ho.lt g e).1
    have k2 := hq g e
    omega
/-- A row of one's own comes to rest. -/
theorem SO.row {b : Option Addr} {c : Nat} (h : SO w0 W g B a len cap S ty sz (.slice b n c) n L) : n ≤ c ∧ ∃ lo hi, SD w0 W g B a len cap (rwS b L lo hi :: S) := by
  have hf := FRw.of_own h.ow.own
  refine ⟨hf.2, ?_⟩
  rcases hf.1 with e | ⟨q, e1, e2, e3, e4⟩
  · exact ⟨W.heap.size, W.heap.size, h.beside (.inl e) (rwS.loc _ _ _ _) h.ow.sl.bel.size (Nat.le_refl _) (fun s hs => .inr (h.ow.sl.is s hs).2.2.2) (.inr h.cur.2.1)⟩
  · subst e1
    have hne : q ≠ g := fun e2 => h.gne (by rw [← e2]; rfl)
    exact ⟨q, q + 1, h.beside (.inr ⟨q, rfl, Nat.le_refl _, Nat.lt_succ_self _, e4⟩) (rwS.loc _ _ _ _) e2 e3 (fun s hs => by have := h.ow.far q rfl s hs; omega) (by omega)⟩
end
/-- What acts may be done to. -/
def DGc (fs : List FM) : Prop := FFit fs ∧ fs.length ≤ 1048576
theorem DG.fit {fs : List FM} {m : Nat} (h : DG fs m) (hm : m ≤ 1000) : DGc fs := by
  have := h.few
  refine ⟨⟨by omega, fun f hf => ?_⟩, by omega⟩
  obtain ⟨h1, h2, h3, h4⟩ := h.all f hf
  exact ⟨by omega, by omega, by omega, by omega⟩
theorem dgc_next (cur : List FM) (x : AM) : DGc ((doA cur x).getD []) := by
  cases h : doA cur x with
  | none => exact ⟨⟨by simp, fun f hf => by simp at hf⟩, by simp⟩
  | some o =>
    have k := doA_ok h
    exact ⟨k.fit, by have := k.1; simp only [Option.getD_some]; omega⟩
theorem ADk.good {x : AM} (h : ADk x) : x.name.size ≤ 9223372036854775807 ∧ x.text.size ≤ 1048576 ∧ x.dst.size ≤ 9223372036854775807 := by
  obtain ⟨h1, h2, h3⟩ := h
  exact ⟨by omega, by omega, by omega⟩
end Go.Proofs.Ytplcdcfhfaghiaa
/- DrAa: The model's draw of acts (written by gen/mkdraa.py). -/
namespace Go.Proofs.Ytplcdcfhfaghiaa
set_option maxRecDepth 100000
open Go.RowKit BigFrame
attribute [local go_sem ↓] Go.wp_at_zero Go.wp_at_succ

/-- Acts as they are drawn. -/
def ActsDrawn (w0 : World) (g B : Nat) (a : Option Addr) (len cap : Nat) (S : List Str) (e : Ending) (w' : World) : Prop :=
  ∃ (xs : List AM) (b : Option Addr) (c : Nat), e = .returned (.slice b xs.length c) ∧ xs.length ≤ 9 ∧ (∀ x ∈ xs, ADk x) ∧ SO w0 w' g B a len cap S 37 4 (.slice b xs.length c) xs.length (acs xs)
/-- The disk at hand lies among the stretches. -/
def CurD (T : List Str) (b : Option Addr) (cur : List FM) : Prop := ∃ lo hi, rwS b (fcs cur) lo hi ∈ T
theorem CurD.row {T : List Str} {b : Option Addr} {cur : List FM} (h : CurD T b cur) {w0 W : World} (k : SL w0 W T) : FRow W b cur := by
  obtain ⟨lo, hi, hm⟩ := h
  exact FRw.crow (k.is _ hm).1
theorem sub_mid (s : Str) (T S : List Str) : (s :: S).Sublist (s :: (T ++ S)) := List.Sublist.cons_cons s (List.sublist_append_right T S)
set_option maxRecDepth 1000000 in
set_option maxHeartbeats 8000000 in
theorem l03Acts_any {w0 W : World} {g B len cap : Nat} {a : Option Addr} {S : List Str} {b : Option Addr} {cd0 : Nat} {fs : List FM} (h : SD w0 W g B a len cap S) (hf : DGc fs) (hm : CurD S b fs) :
    Calls Try.prog 15 #[.pointer (some ⟨g, 0, none⟩), .agg #[.slice b fs.length cd0]] W fun e W' => ActsDrawn w0 g B a len cap S e W' := by
  obtain ⟨i0, hin, hz0, hz1, hz2⟩ := info_parts infoAct
  have HF := Shut.mk hf
  have HM := Shut.mk hm
  have H0 := Shut.mk (so_nil (h.new #[.slice b fs.length cd0] 26) 37 4)
  simp only [World.size_alloc] at H0
  clear h hf hm
  go_enter Try.func15, Try.ntmps15
  go_wp2_with fail
  go_loopw [5, 6] (fun v i9 wr => ∃ (xs : List AM) (cur : List FM) (T : List Str) (bA bd : Option Addr) (n c k nd cd : Nat), v = .slice bA n c ∧ i9 = .int .i64 k ∧ k ≤ 9 ∧ n ≤ k ∧ Shut (n = xs.length) ∧ Shut (∀ x ∈ xs, ADk x) ∧ Shut (nd = cur.length) ∧ Shut (DGc cur) ∧ Shut (CurD (T ++ S) bd cur) ∧ Shut (SO w0 wr g B a len cap (bxS W.heap.size [.slice bd nd cd] :: (T ++ S)) 37 4 (.slice bA n c) n (acs xs))) (fun _ i9 _ => 9 - (intOf i9).toNat)
  case atStart => exact ⟨[], fs, [], _, b, 0, 0, 0, _, cd0, rfl, rfl, by omega, by omega, ⟨rfl⟩, ⟨fun x hx => by cases hx⟩, ⟨rfl⟩, ⟨HF.out⟩, ⟨HM.out⟩, ⟨H0.out⟩⟩
  case round =>
    clear H0 HM HF
    obtain ⟨xs, cur, T, bA, bd, n, c, k, nd, cd, rfl, rfl, hk9, hnk, HN, HK, ⟨rfl⟩, HF, HM, HW⟩ := hrel
    go_wp2_with fail
    refine (HW.out.sd.pick 9 (by omega)).mono ?_
    rintro e w2 ⟨y, rfl, y0, y1, hd⟩
    replace HW := Shut.mk (HW.out.draw hd)
    clear hd
    by_cases hlt : (k : Int) < y
    · have hk8 : k < 9 := by omega
      clear y0 y1
      go_wp2_with fail
      obtain ⟨lo9, hi9, hpk⟩ := HW.out.pack
      have HP := Shut.mk hpk
      clear hpk HW
      refine (l03Act_any HP.out).mono ?_
      rintro e w3 ⟨x, rfl, hx, hsd⟩
      have HX := Shut.mk hx
      have HW := Shut.mk hsd.unpack
      clear hx hsd HP
      go_upto_region 6 with fail
      obtain ⟨nx, hnx⟩ : ∃ q, q = (doA cur x).getD [] := ⟨_, rfl⟩
      obtain ⟨ok, hok⟩ : ∃ q, q = (doA cur x).isSome := ⟨_, rfl⟩
      have HSP : Shut (∀ wq, FRow wq bd cur → Calls Try.prog 23 #[.agg #[.slice bd cur.length cd], av x] wq fun e w' => DiskPost nx (.bool ok) wq e w') := ⟨by rw [hnx, hok]; exact fun wq hr => specDoActR rfl bd cd wq hr HF.out.1 HF.out.2 HX.out.good.1 HX.out.good.2.1 HX.out.good.2.2⟩
      have HFN : Shut (DGc nx) := ⟨by rw [hnx]; exact dgc_next cur x⟩
      clear hnx hok
      have HB := Shut.mk (HW.out.box #[.int .i64 x.kind, .string x.name, .string x.text, .string x.dst] 37)
      obtain ⟨wa, hwa⟩ : ∃ q, q = w3.alloc (.cells #[.int .i64 x.kind, .string x.name, .string x.text, .string x.dst] 37) := ⟨_, rfl⟩
      obtain ⟨ab, hab⟩ : ∃ q, q = w3.heap.size := ⟨_, rfl⟩
      rw [← hwa, ← hab] at HB
      rw [← hwa, ← hab]
      clear hwa hab HW
      have z0 := (HB.out.bx 1 rfl 0 _ rfl).1
      have q0 := (HB.out.bx 0 rfl 0 _ rfl).1
      have q1 := (HB.out.bx 0 rfl 1 _ rfl).1
      have q2 := (HB.out.bx 0 rfl 2 _ rfl).1
      have q3 := (HB.out.bx 0 rfl 3 _ rfl).1
      go_wp2_with fail
      refine (HSP.out _ (HM.out.row HB.out.ow.sl.tail.tail)).mono ?_
      rintro e w6 ⟨va6, vc6, rfl, hf6, hc6, hb6⟩
      replace HB := Shut.mk (HB.out.add (s := rwS va6 (fcs nx) wa.heap.size w6.heap.size) hb6 hf6 (rwS.loc _ _ _ _) (Nat.le_refl _) (Nat.le_refl _))
      obtain ⟨lo6, hlo6⟩ : ∃ q, q = wa.heap.size := ⟨_, rfl⟩
      obtain ⟨hi6, hhi6⟩ : ∃ q, q = w6.heap.size := ⟨_, rfl⟩
      rw [← hlo6, ← hhi6] at HB
      clear hlo6 hhi6 hf6 hc6 hb6 HSP z0 q0 q1 q2 q3
      go_upto_region 7 with fail
      replace HB := Shut.mk (HB.out.box #[.slice va6 nx.length vc6] 26)
      obtain ⟨w7, hw7⟩ : ∃ q, q = w6.alloc (.cells #[.slice va6 nx.length vc6] 26) := ⟨_, rfl⟩
      obtain ⟨db, hdb⟩ : ∃ q, q = w6.heap.size := ⟨_, rfl⟩
      rw [← hw7, ← hdb] at HB
      rw [← hw7, ← hdb]
      clear hw7 hdb
      cases ok with
      | true =>
        have hown := HB.out.ow.own
        have hsz : w0.heap.size ≤ w7.heap.size := HB.out.ow.sl.bel.size
        have q0 := (HB.out.bx 2 rfl 0 _ rfl).1
        have q1 := (HB.out.bx 2 rfl 1 _ rfl).1
        have q2 := (HB.out.bx 2 rfl 2 _ rfl).1
        have q3 := (HB.out.bx 2 rfl 3 _ rfl).1
        have hszA : w0.heap.size ≤ (w7.alloc (.cells #[.int .i64 x.kind, .string x.name, .string x.text, .string x.dst] 37)).heap.size := by rw [World.size_alloc]; omega
        have hcl : ∀ j u, ([.int .i64 x.kind, .string x.name, .string x.text, .string x.dst] : List Value)[j]? = some u → (w7.alloc (.cells #[.int .i64 x.kind, .string x.name, .string x.text, .string x.dst] 37)).cell? ((⟨w7.heap.size, 0, none⟩ : Addr).add j) = some u := fun j u hu => by
          have q := ((wcells_new w7 #[.int .i64 x.kind, .string x.name, .string x.text, .string x.dst] 37).2 j u hu).1
          cases j with
          | zero => exact q
          | succ j => simpa [Addr.add] using q
        have hone : ∀ u ∈ ([.int .i64 x.kind, .string x.name, .string x.text, .string x.dst] : List Value), u.oneCell' = true := fun u hu => by
          simp only [List.mem_cons, List.not_mem_nil, or_false] at hu
          rcases hu with rfl | rfl | rfl | rfl <;> rfl
        go_upto_region 8 with fail
        go_upto_region 9 with (at_builtin; refine wpList_append_own_at _ rfl _ _ 27 rfl w0.heap.size 37 i0 _ 4 56 Try.underlying27 hin hz0 hz1 hz2 rfl (by decide) _ _ _ rfl (hown.alloc _) ⟨w7.heap.size, 0, none⟩ 1 1 [.int .i64 x.kind, .string x.name, .string x.text, .string x.dst] rfl rfl hcl hone (by unfold maxLen; omega) (by omega) hszA ?_)
        intro v9 w9 ho hg _ hat
        obtain ⟨b9, c9, rfl⟩ := own_row_slice ho
        have HS := Shut.mk (HB.out.more (m := n + 1) (L' := acs (xs ++ [x])) ((Below.refl _ _).alloc (Nat.le_refl _) (.cells #[.int .i64 x.kind, .string x.name, .string x.text, .string x.dst] 37)) (by rw [show acs (xs ++ [x]) = acs xs ++ [.int .i64 x.kind, .string x.name, .string x.text, .string x.dst] by simp [acs, acells]]; exact ho) hg (by rw [World.size_alloc]; exact hat))
        clear ho hg hat hown hsz hszA hcl hone HB q0 q1 q2 q3
        have d0 := (HS.out.bx 0 rfl 0 _ rfl).1
        obtain ⟨e0, e0f⟩ := HS.out.bx 3 rfl 0 _ rfl
        have HZ := Shut.mk (HS.out.put 3 rfl 0 (.slice va6 nx.length vc6) (by simp))
        simp only [List.set_cons_zero, List.set_cons_succ] at HZ
        replace HZ := Shut.mk ((HZ.out.sub (List.Sublist.cons _ (List.Sublist.cons_cons _ (List.Sublist.cons _ (List.Sublist.cons_cons _ (List.sublist_append_right T S)))))).perm (List.Perm.swap _ _ _))
        clear HS
        go_wp2_with fail
        go_roundw
        case rel => exact ⟨xs ++ [x], nx, [rwS va6 (fcs nx) lo6 hi6], b9, va6, n + 1, c9, k + 1, _, vc6, rfl, by go_num, by omega, by omega, ⟨by rw [List.length_append, ← HN.out]; rfl⟩, ⟨fun z hz => by rcases List.mem_append.1 hz with q | q; exact HK.out z q; rw [List.mem_singleton.1 q]; exact HX.out⟩, ⟨rfl⟩, ⟨HFN.out⟩, ⟨⟨_, _, List.mem_append_left _ (List.mem_singleton.2 rfl)⟩⟩, ⟨HZ.out⟩⟩
        case measure => simp [intOf]; omega
      | false =>
        go_wp2_with fail
        refine (HB.out.sd.once 20 (by omega)).mono ?_
        rintro e w8 ⟨y9, rfl, hd⟩
        replace HB := Shut.mk (HB.out.draw hd)
        clear hd
        cases y9 with
        | true =>
          have hown := HB.out.ow.own
          have hsz : w0.heap.size ≤ w8.heap.size := HB.out.ow.sl.bel.size
          have q0 := (HB.out.bx 2 rfl 0 _ rfl).1
          have q1 := (HB.out.bx 2 rfl 1 _ rfl).1
          have q2 := (HB.out.bx 2 rfl 2 _ rfl).1
          have q3 := (HB.out.bx 2 rfl 3 _ rfl).1
          have hszA : w0.heap.size ≤ (w8.alloc (.cells #[.int .i64 x.kind, .string x.name, .string x.text, .string x.dst] 37)).heap.size := by rw [World.size_alloc]; omega
          have hcl : ∀ j u, ([.int .i64 x.kind, .string x.name, .string x.text, .string x.dst] : List Value)[j]? = some u → (w8.alloc (.cells #[.int .i64 x.kind, .string x.name, .string x.text, .string x.dst] 37)).cell? ((⟨w8.heap.size, 0, none⟩ : Addr).add j) = some u := fun j u hu => by
            have q := ((wcells_new w8 #[.int .i64 x.kind, .string x.name, .string x.text, .string x.dst] 37).2 j u hu).1
            cases j with
            | zero => exact q
            | succ j => simpa [Addr.add] using q
          have hone : ∀ u ∈ ([.int .i64 x.kind, .string x.name, .string x.text, .string x.dst] : List Value), u.oneCell' = true := fun u hu => by
            simp only [List.mem_cons, List.not_mem_nil, or_false] at hu
            rcases hu with rfl | rfl | rfl | rfl <;> rfl
          go_upto_region 8 with fail
          go_upto_region 9 with (at_builtin; refine wpList_append_own_at _ rfl _ _ 27 rfl w0.heap.size 37 i0 _ 4 56 Try.underlying27 hin hz0 hz1 hz2 rfl (by decide) _ _ _ rfl (hown.alloc _) ⟨w8.heap.size, 0, none⟩ 1 1 [.int .i64 x.kind, .string x.name, .string x.text, .string x.dst] rfl rfl hcl hone (by unfold maxLen; omega) (by omega) hszA ?_)
          intro v9 w9 ho hg _ hat
          obtain ⟨b9, c9, rfl⟩ := own_row_slice ho
          have HS := Shut.mk (HB.out.more (m := n + 1) (L' := acs (xs ++ [x])) ((Below.refl _ _).alloc (Nat.le_refl _) (.cells #[.int .i64 x.kind, .string x.name, .string x.text, .string x.dst] 37)) (by rw [show acs (xs ++ [x]) = acs xs ++ [.int .i64 x.kind, .string x.name, .string x.text, .string x.dst] by simp [acs, acells]]; exact ho) hg (by rw [World.size_alloc]; exact hat))
          clear ho hg hat hown hsz hszA hcl hone HB q0 q1 q2 q3
          have d0 := (HS.out.bx 0 rfl 0 _ rfl).1
          obtain ⟨e0, e0f⟩ := HS.out.bx 3 rfl 0 _ rfl
          have HZ := Shut.mk (HS.out.put 3 rfl 0 (.slice va6 nx.length vc6) (by simp))
          simp only [List.set_cons_zero, List.set_cons_succ] at HZ
          replace HZ := Shut.mk ((HZ.out.sub (List.Sublist.cons _ (List.Sublist.cons_cons _ (List.Sublist.cons _ (List.Sublist.cons_cons _ (List.sublist_append_right T S)))))).perm (List.Perm.swap _ _ _))
          clear HS
          go_wp2_with fail
          go_roundw
          case rel => exact ⟨xs ++ [x], nx, [rwS va6 (fcs nx) lo6 hi6], b9, va6, n + 1, c9, k + 1, _, vc6, rfl, by go_num, by omega, by omega, ⟨by rw [List.length_append, ← HN.out]; rfl⟩, ⟨fun z hz => by rcases List.mem_append.1 hz with q | q; exact HK.out z q; rw [List.mem_singleton.1 q]; exact HX.out⟩, ⟨rfl⟩, ⟨HFN.out⟩, ⟨⟨_, _, List.mem_append_left _ (List.mem_singleton.2 rfl)⟩⟩, ⟨HZ.out⟩⟩
          case measure => simp [intOf]; omega
        | false =>
          have HZ := Shut.mk (HB.out.sub (List.Sublist.cons _ (List.Sublist.cons _ (List.Sublist.cons _ (List.Sublist.refl _)))))
          clear HB
          go_wp2_with fail
          go_roundw
          case rel => exact ⟨xs, cur, T, bA, bd, n, c, k + 1, _, cd, rfl, by go_num, by omega, by omega, ⟨HN.out⟩, ⟨HK.out⟩, ⟨rfl⟩, ⟨HF.out⟩, ⟨HM.out⟩, ⟨HZ.out⟩⟩
          case measure => simp [intOf]; omega
    · go_wp2_with fail
      have HE := Shut.mk (HW.out.sub (List.Sublist.cons _ (List.sublist_append_right T S)))
      go_ret
      exact ⟨xs, bA, c, by rw [← HN.out]; rfl, by rw [← HN.out]; omega, HK.out, by rw [← HN.out]; exact HE.out⟩
end Go.Proofs.Ytplcdcfhfaghiaa
/- DrCt: The model's draw of acts that are cut. -/
namespace Go.Proofs.Ytplcdcfhfaghiaa
set_option maxRecDepth 100000
open Go.RowKit BigFrame
attribute [local go_sem ↓] Go.wp_at_zero Go.wp_at_succ

/-- All blocks of a stretch, as they are in a world. -/
abbrev keS (W0 : World) (lo hi : Nat) : Str := ⟨fun W => hi ≤ W.heap.size ∧ ∀ k, lo ≤ k → k < hi → W.heap[k]? = W0.heap[k]?, lo, hi⟩
theorem keS.loc (W0 : World) (lo hi : Nat) : (keS W0 lo hi).Loc := fun W W' l h hp t hd => by
  refine ⟨Nat.le_trans hp.1 t.size, fun k h1 h2 => ?_⟩
  dsimp only [keS] at hp hd h1 h2
  exact (t.block k (by omega) (by omega)).trans (hp.2 k h1 h2)
section
variable {w0 W W' : World} {g B len cap ty sz n : Nat} {a : Option Addr} {S : List Str} {v : Value} {L : List Value}
theorem SD.all (h : SD w0 W g B a len cap S) : SD w0 W g B a len cap [keS W w0.heap.size g, keS W (g + 1) W.heap.size] := by
  have hg := h.cur.2.1
  refine ⟨⟨h.sl.bel, fun s hs => ?_, ?_⟩, h.cur, fun s hs => ?_, h.hg, h.hB⟩
  · simp only [List.mem_cons, List.not_mem_nil, or_false] at hs
    rcases hs with rfl | rfl
    · exact ⟨⟨by omega, fun _ _ _ => rfl⟩, keS.loc _ _ _, Nat.le_refl _, by dsimp only [keS]; omega⟩
    · exact ⟨⟨Nat.le_refl _, fun _ _ _ => rfl⟩, keS.loc _ _ _, by dsimp only [keS]; have := h.hg; omega, Nat.le_refl _⟩
  · exact List.pairwise_cons.2 ⟨fun t ht => by rw [List.mem_singleton] at ht; subst ht; exact .inl (by dsimp only [keS]; omega), List.pairwise_singleton _ _⟩
  · simp only [List.mem_cons, List.not_mem_nil, or_false] at hs
    rcases hs with rfl | rfl
    · exact .inl (Nat.le_refl _)
    · exact .inr (Nat.lt_succ_self _)
theorem SD.dr_of (h : SD w0 W g B a len cap S) (k : SD w0 W' g B a len cap [keS W w0.heap.size g, keS W (g + 1) W.heap.size]) : Dr g B a len cap W W' := by
  obtain ⟨p1, -, -, -⟩ := k.sl.is _ (List.mem_cons_self ..)
  obtain ⟨p2, -, -, -⟩ := k.sl.is _ (List.mem_cons_of_mem _ (List.mem_cons_self ..))
  dsimp only [keS] at p1 p2
  refine ⟨⟨k.sl.bel.os.trans h.sl.bel.os.symm, k.sl.bel.tape.trans h.sl.bel.tape.symm, k.sl.bel.output.trans h.sl.bel.output.symm, p2.1, fun j hj hne => ?_⟩, fun _ => k.cur⟩
  have hne : j ≠ g := fun e => hne (by rw [e])
  rcases Nat.lt_or_ge j w0.heap.size with q | q
  · exact (k.sl.bel.block j q).trans (h.sl.bel.block j q).symm
  · rcases Nat.lt_or_ge j g with q2 | q2
    · exact p1.2 j q q2
    · exact p2.2 j (by omega) hj
theorem SD.own_of (h : SD w0 W g B a len cap S) (k : SO w0 W' g B a len cap [keS W w0.heap.size g, keS W (g + 1) W.heap.size] ty sz v n L) : SO w0 W' g B a len cap S ty sz v n L := by
  have hd := h.dr_of k.sd
  have j := h.draw hd
  refine ⟨⟨j.sl, k.ow.own, fun q e s hs => ?_⟩, k.cur, j.far, k.gne, j.hg, j.hB⟩
  have f1 := k.ow.far q e _ (List.mem_cons_self ..)
  have f2 := k.ow.far q e _ (List.mem_cons_of_mem _ (List.mem_cons_self ..))
  have lt := k.ow.lt q e
  have hne : q ≠ g := fun e2 => k.gne (by rw [e, e2])
  have hs2 := (h.sl.is s hs).2.2.2
  dsimp only [keS] at f1 f2
  omega
theorem SD.place (h : SD w0 W g B a len cap S) (n : Int) (n0 : 0 ≤ n) (n1 : n ≤ 1000000) : Calls Try.prog 16 #[.pointer (some ⟨g, 0, none⟩), .int .i64 n] W fun e W' => ∃ y : Int, e = .returned (.int .i64 y) ∧ In64 y ∧ Dr g B a len cap W W' := by
  refine (l01Place_any n n0 n1 h.all).mono ?_
  rintro e w2 ⟨y, rfl, hy, k⟩
  exact ⟨y, rfl, hy, h.dr_of k⟩
theorem SD.left (h : SD w0 W g B a len cap S) : Calls Try.prog 17 #[.pointer (some ⟨g, 0, none⟩)] W fun e W' => ∃ (ks : List Int) (b : Option Addr) (c lo hi : Nat), e = .returned (.slice b ks.length c) ∧ ks.length ≤ 6 ∧ ks.length ≤ c ∧ Dr g B a len cap W W' ∧ SD w0 W' g B a len cap (rwS b (ics ks) lo hi :: S) := by
  refine (l03Left_any h.all).mono ?_
  rintro e w2 ⟨ks, b, c, rfl, hk, _, k⟩
  obtain ⟨hc, lo, hi, hr⟩ := (h.own_of k).row
  exact ⟨ks, b, c, lo, hi, rfl, hk, hc, h.dr_of k.sd, hr⟩
end
/-- Acts that are cut, as they are drawn. -/
def CutDrawn (w : World) (e : Ending) (w' : World) : Prop :=
  ∃ (fs : List FM) (xs : List AM) (y : Int) (ks : List Int) (b ba bk : Option Addr) (c ca ck l1 h1 l2 h2 l3 h3 : Nat),
    e = .returned (.tuple #[.agg #[.slice b fs.length c], .slice ba xs.length ca, .int .i64 y, .slice bk ks.length ck]) ∧ DG fs 31 ∧ xs.length ≤ 9 ∧ (∀ x ∈ xs, ADk x) ∧ xs.length ≤ ca ∧ ks.length ≤ 6 ∧ SL w w' [rwS bk (ics ks) l3 h3, rwS ba (acs xs) l2 h2, rwS b (fcs fs) l1 h1]
theorem Cur.low9 {w W : World} {g B len cap : Nat} {a : Option Addr} (h : Cur W g B a len cap) (hc : CodeAt w w.heap.size a len) (hb : Below w.heap.size w W) (hg : w.heap.size ≤ g) : Cur W g w.heap.size a len cap :=
  ⟨hg, h.2.1, hc.below hb (Nat.le_refl _), h.2.2.2⟩
set_option maxRecDepth 1000000 in
set_option maxHeartbeats 4000000 in
theorem drawCutActs_any (w : World) (a : Option Addr) (len cap : Nat) (hc : CodeAt w w.heap.size a len) :
    Calls Try.prog 5 #[.slice a len cap] w fun e w' => CutDrawn w e w' := by
  have HC := Shut.mk hc
  have HS := Shut.mk ((SL.start w).new #[.slice none 0 0] 26)
  clear hc
  go_enter Try.func5, Try.ntmps5
  go_upto_region 1 with fail
  obtain ⟨rb, hrb⟩ : ∃ q, q = w.heap.size := ⟨_, rfl⟩
  rw [← hrb] at HS
  refine wp_shade (fun W => SL w W [bxS rb [.slice none 0 0]]) HS.out ?_
  intro W0 hW
  rw [← hrb]
  have H := Shut.mk hW
  clear HS hW hrb
  go_upto_region 2 with (go_at_call 13; refine (l01New_any _ a len cap ⟨HC.out.1, fun hp => by obtain ⟨b, off, e, lb, hx⟩ := HC.out.2 hp; exact ⟨b, off, e, Nat.lt_of_lt_of_le lb H.out.bel.size, fun j hj => by obtain ⟨x, h1, h2⟩ := hx j hj; exact ⟨x, (H.out.bel.cell (p := ⟨b, off + j, none⟩) lb).trans h1, h2⟩⟩⟩).mono ?_; rintro e w1 ⟨g, rfl, hg, hcur, hb1⟩; have HD : Shut (SD w w1 g w.heap.size a len cap [bxS rb [.slice none 0 0]]) := ⟨⟨H.out.below hb1, hcur.low9 HC.out (H.out.below hb1).bel (Nat.le_trans H.out.bel.size hg), fun s hs => by rw [List.mem_singleton] at hs; subst hs; exact .inl (Nat.le_trans (H.out.is _ (List.mem_singleton.2 rfl)).2.2.2 hg), Nat.le_trans H.out.bel.size hg, Nat.le_refl _⟩⟩; clear hcur hb1 hg)
  clear H HC
  go_wp2_with fail
  refine (l03Disk_any HD.out).mono ?_
  rintro e w2 ⟨fs, b, c, rfl, hdg, hso⟩
  have HG := Shut.mk hdg
  obtain ⟨_, l1, h1, hsd⟩ := hso.row
  replace HD := Shut.mk hsd
  obtain ⟨n, hn⟩ : ∃ q, q = fs.length := ⟨_, rfl⟩
  have HN := Shut.mk hn
  rw [← hn]
  clear hdg hso hsd hn
  replace HD := Shut.mk (HD.out.new #[.slice b n c] 26)
  obtain ⟨db, hdb⟩ : ∃ q, q = w2.heap.size := ⟨_, rfl⟩
  rw [← hdb] at HD
  go_upto_region 3 with fail
  refine wp_shade (fun W => SD w W g w.heap.size a len cap [bxS db [.slice b n c], rwS b (fcs fs) l1 h1, bxS rb [.slice none 0 0]]) HD.out ?_
  intro W3 hW
  rw [← hdb]
  replace HD := Shut.mk hW
  clear hW hdb
  have d0 := (HD.out.bx 0 rfl 0 _ rfl).1
  go_wp2_with fail
  have hacts := l03Acts_any (cd0 := c) HD.out (DG.fit HG.out (by omega)) ⟨l1, h1, List.mem_cons_of_mem _ (List.mem_cons_self ..)⟩
  rw [← HN.out] at hacts
  refine hacts.mono ?_
  rintro e w3 ⟨xs, ba, ca, rfl, hx9, hxa, hso⟩
  obtain ⟨hca, l2, h2, hsd⟩ := hso.row
  replace HD := Shut.mk hsd
  have hx9' := hx9
  have hca' := hca
  have HXA := Shut.mk hxa
  obtain ⟨m, hm⟩ : ∃ q, q = xs.length := ⟨_, rfl⟩
  have HM := Shut.mk hm
  rw [← hm] at hx9 hca ⊢
  have hwr : IntKind.i64.wrap ((m : Int) + 1) = (m : Int) + 1 := IntWalk.i64_in _ ⟨by omega, by omega⟩
  clear hso hsd hxa hm d0 hacts
  go_upto_region 4 with fail
  have HX := Shut.mk (HD.out.below (Below.drew (Below.refl _ _)))
  clear HD
  refine wp_region_E (Dr g w.heap.size a len cap) (Dr.pre g w.heap.size a len cap) (fun j => decide (9 ≤ j ∨ j = 1)) (by kernel_rfl) ?_
  refine wpE_pure (Dr.pre g w.heap.size a len cap) (i := 1) (v := ?vqa1) rfl (by kernel_rfl) (by kernel_rfl) (by kernel_rfl) (by kernel_rfl) (fun _ _ _ h => h) (by rfl) ?hyqa1 ?restqa1
  case hyqa1 => (intro x; go_simp; try with_reducible rfl)
  try simp only [Act.put, List.setIfInBounds_toArray, List.set_cons_zero, List.set_cons_succ]
  refine wpE_val (Dr.pre g w.heap.size a len cap) (i := 0) (v := ?vqa0) rfl (by kernel_rfl) (by kernel_rfl) (by kernel_rfl) (by kernel_rfl) (fun _ _ _ h => h) (by rfl) ?hyqa0 ?restqa0
  case hyqa0 => (intro x hx; have d0 := ((HX.out.draw hx).bx 1 rfl 0 _ rfl).1; go_simp; try with_reducible rfl)
  try simp only [Act.put, List.setIfInBounds_toArray, List.set_cons_zero, List.set_cons_succ]
  refine wpE_val (Dr.pre g w.heap.size a len cap) (i := 2) (v := ?vqa2) rfl (by kernel_rfl) (by kernel_rfl) (by kernel_rfl) (by kernel_rfl) (fun _ _ _ h => h) (by rfl) ?hyqa2 ?restqa2
  case hyqa2 => (intro x hx; have d0 := ((HX.out.draw hx).bx 1 rfl 0 _ rfl).1; go_simp; try with_reducible rfl)
  try simp only [Act.put, List.setIfInBounds_toArray, List.set_cons_zero, List.set_cons_succ]
  refine wpE_val (Dr.pre g w.heap.size a len cap) (i := 3) (v := ?vqa3) rfl (by kernel_rfl) (by kernel_rfl) (by kernel_rfl) (by kernel_rfl) (fun _ _ _ h => h) (by rfl) ?hyqa3 ?restqa3
  case hyqa3 => (intro x hx; have d0 := ((HX.out.draw hx).bx 1 rfl 0 _ rfl).1; go_simp; try with_reducible rfl)
  try simp only [Act.put, List.setIfInBounds_toArray, List.set_cons_zero, List.set_cons_succ]
  refine wpE_val (Dr.pre g w.heap.size a len cap) (i := 4) (v := ?vqa4) rfl (by kernel_rfl) (by kernel_rfl) (by kernel_rfl) (by kernel_rfl) (fun _ _ _ h => h) (by rfl) ?hyqa4 ?restqa4
  case hyqa4 => (intro x hx; have d0 := ((HX.out.draw hx).bx 1 rfl 0 _ rfl).1; go_simp; try with_reducible rfl)
  try simp only [Act.put, List.setIfInBounds_toArray, List.set_cons_zero, List.set_cons_succ]
  refine wpE_val (Dr.pre g w.heap.size a len cap) (i := 5) (v := ?vqa5) rfl (by kernel_rfl) (by kernel_rfl) (by kernel_rfl) (by kernel_rfl) (fun _ _ _ h => h) (by rfl) ?hyqa5 ?restqa5
  case hyqa5 => (intro x hx; have d0 := ((HX.out.draw hx).bx 1 rfl 0 _ rfl).1; go_simp; try with_reducible rfl)
  try simp only [Act.put, List.setIfInBounds_toArray, List.set_cons_zero, List.set_cons_succ]
  refine wpE_val (Dr.pre g w.heap.size a len cap) (i := 7) (v := ?vqa7) rfl (by kernel_rfl) (by kernel_rfl) (by kernel_rfl) (by kernel_rfl) (fun _ _ _ h => h) (by rfl) ?hyqa7 ?restqa7
  case hyqa7 => (intro x hx; have d0 := ((HX.out.draw hx).bx 1 rfl 0 _ rfl).1; go_simp; try with_reducible rfl)
  try simp only [Act.put, List.setIfInBounds_toArray, List.set_cons_zero, List.set_cons_succ]
  refine wpE_onecall (f := 16) (args := #[.pointer (some ⟨g, 0, none⟩), .int .i64 ((m : Int) + 1)]) (i := 6) (by kernel_rfl) rfl (by rfl) (fun x hx => by go_simp) (fun x hx => ((HX.out.draw hx).place ((m : Int) + 1) (by omega) (by omega)).mono ?_)
  rintro e w4 ⟨y, rfl, _, hd⟩
  refine ⟨_, rfl, hd, ?_⟩
  replace HX := Shut.mk ((HX.out.draw hx).draw hd)
  clear hd hx
  try simp only [Act.put, List.setIfInBounds_toArray, List.set_cons_zero, List.set_cons_succ]
  refine wpE_onecall (f := 17) (args := #[.pointer (some ⟨g, 0, none⟩)]) (i := 8) (by kernel_rfl) rfl (by rfl) (fun x hx => by go_simp) (fun x hx => ((HX.out.draw hx).left).mono ?_)
  rintro e w5 ⟨ks, bk, ck, l3, h3, rfl, hk6, _, hd, hsd⟩
  refine ⟨_, rfl, hd, ?_⟩
  obtain ⟨nk, hnk⟩ : ∃ q, q = ks.length := ⟨_, rfl⟩
  have HNK := Shut.mk hnk
  rw [← hnk] at hk6 ⊢
  replace HX := Shut.mk hsd
  clear hd hx hsd hnk
  try simp only [Act.put, List.setIfInBounds_toArray, List.set_cons_zero, List.set_cons_succ]
  refine wpE_tail (by kernel_rfl) ?_
  intro x hx
  replace HX := Shut.mk (HX.out.draw hx)
  clear hx
  obtain ⟨r0, rf0⟩ := HX.out.bx 4 rfl 0 _ rfl
  have HZ := Shut.mk (HX.out.put 4 rfl 0 (.slice b n c) (by simp))
  simp only [List.set_cons_zero, List.set_cons_succ] at HZ
  refine wpA_step (y := x.setCell ⟨rb, 0, none⟩ (.slice b n c)) (i := 9) (by kernel_rfl) rfl (by rfl) (by go_simp) ?_
  clear r0 rf0 HX
  simp only [Act.put]
  refine wpA_val (i := 10) (v := .slice ba m ca) rfl (by kernel_rfl) (by kernel_rfl) (by kernel_rfl) (fun _ _ _ h => h) (by rfl) (fun x => by go_simp) ?_
  try simp only [Act.put, List.setIfInBounds_toArray, List.set_cons_zero, List.set_cons_succ]
  refine wpA_val (i := 11) (v := .int .i64 y) rfl (by kernel_rfl) (by kernel_rfl) (by kernel_rfl) (fun _ _ _ h => h) (by rfl) (fun x => by go_simp) ?_
  try simp only [Act.put, List.setIfInBounds_toArray, List.set_cons_zero, List.set_cons_succ]
  refine wpA_val (i := 12) (v := .slice bk nk ck) rfl (by kernel_rfl) (by kernel_rfl) (by kernel_rfl) (fun _ _ _ h => h) (by rfl) (fun x => by go_simp) ?_
  try simp only [Act.put, List.setIfInBounds_toArray, List.set_cons_zero, List.set_cons_succ]
  refine wpA_done (by kernel_rfl) ?_ _
  obtain ⟨r0, rf0⟩ := HZ.out.bx 4 rfl 0 _ rfl
  go_wp2_with fail
  refine bodyPost_ret (v := .tuple #[.agg #[.slice b n c], .slice ba m ca, .int .i64 y, .slice bk nk ck]) (by simp [results, Try.results5, go_sem, r0]) rfl ?_
  refine ⟨fs, xs, y, ks, b, ba, bk, c, ca, ck, l1, h1, l2, h2, l3, h3, by rw [HN.out, HM.out, HNK.out], HG.out, hx9', HXA.out, hca', by rw [← HNK.out]; exact hk6, HZ.out.sl.sub ?_⟩
  exact List.Sublist.cons_cons _ (List.Sublist.cons_cons _ (List.Sublist.cons _ (List.Sublist.cons_cons _ (List.nil_sublist _))))
end Go.Proofs.Ytplcdcfhfaghiaa
/- ActB: Rows of acts: two that are the same are told so; marks that are laid into one. -/
namespace Go.Proofs.Ytplcdcfhfaghiaa
set_option maxRecDepth 100000
open Go.RowKit
attribute [local go_sem ↓] Go.wp_at_zero Go.wp_at_succ

def MarkActs (g k n : Nat) (w : World) (e : Ending) (w' : World) : Prop := e = .returned (.int .i64 (k + 4 * n : Nat)) ∧ (∃ ys : List AM, ys.length = n ∧ WCells w' g (acs ys)) ∧ w.grownBy w' (some g)
theorem acs_four (ys : List AM) (j : Nat) (hj : j < ys.length) (f : AM) : ((((acs ys).set (j * 4) (.int .i64 f.kind)).set (j * 4 + 1) (.string f.name)).set (j * 4 + 2) (.string f.text)).set (j * 4 + 3) (.string f.dst) = acs (ys.set j f) :=
  flat_setL acells_len ys j hj f
end Go.Proofs.Ytplcdcfhfaghiaa
