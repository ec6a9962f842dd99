/- The model's walk: an act that moves. -/
import Derived.Test.YtkkpddcncpdnpaaSpA
namespace Go.Proofs.Ytkkpddcncpdnpaa
open Go.RowKit
attribute [local go_sem ↓] Go.wp_at_zero Go.wp_at_succ

set_option maxHeartbeats 2000000 in
set_option maxRecDepth 100000 in
theorem specDoAct_move (a : Option Addr) (fs : List FM) (x : AM) (cap : Nat) (w : World) (hr : FRow w a fs) (hf : FFit fs) (hl : fs.length ≤ 1048576) (hn : x.name.size ≤ 9223372036854775807) (ht : x.text.size ≤ 1048576) (ho : x.to.size ≤ 9223372036854775807) (hx : x.kind = 3) :
    Calls Try.prog 18 #[.agg #[.slice a fs.length cap], av x] w fun e w' => DiskPost ((doA fs x).getD []) (.bool (doA fs x).isSome) w e w' := by
  obtain ⟨k, n, t, o⟩ := x
  simp only at hn ht ho hx
  subst hx
  have HR : Hid (FRow w a fs) := hr
  have HF : Hid (FFit fs) := hf
  have m0 : Mem w w [] [] := ⟨by simp, by simp, Below.refl _ _⟩
  have m1 := ((m0.box #[.slice a fs.length cap] 29).box #[.int .i64 3, .string n, .string t, .string o] 41).box #[.slice none 0 0] 29
  simp only [World.size_alloc] at m1
  have M0 : Shut _ := ⟨m1⟩
  generalize hrr : doA fs ⟨3, n, t, o⟩ = rr
  have HRR : Hid (doA fs ⟨3, n, t, o⟩ = rr) := hrr
  generalize hD : dOkB fs = D
  have HD : Hid (dOkB fs = D) := hD
  clear hr hf m0 m1 hrr hD
  go_enter Try.func18, Try.ntmps18
  go_wp2_with fail
  refine (specDiskOk a fs cap _ (HR.out.stays M0.out.low) HF.out hl).mono ?_
  rw [HD.out]
  rintro e w1 ⟨rfl, hb1⟩
  have M1 : Shut (Mem w w1 [(w.heap.size + 1 + 1, [.slice none 0 0]), (w.heap.size + 1, [.int .i64 3, .string n, .string t, .string o]), (w.heap.size, [.slice a fs.length cap])] []) := ⟨M0.out.below hb1⟩
  have HY : Shut (WCells w1 (w.heap.size + 1 + 1) [.slice none 0 0]) := ⟨M1.out.cells _ (List.mem_cons_self ..)⟩
  have HB : Hid (Below w.heap.size w w1) := M1.out.low
  have hs1 : w.heap.size + 1 + 1 < w1.heap.size := HY.out.1
  have ha1 := M1.out.cells _ (List.mem_cons_of_mem _ (List.mem_cons_self ..))
  obtain ⟨a0, _⟩ := ha1.2 0 _ rfl
  obtain ⟨a1, _⟩ := ha1.2 1 _ rfl
  obtain ⟨a2, _⟩ := ha1.2 2 _ rfl
  obtain ⟨a3, _⟩ := ha1.2 3 _ rfl
  have x1 := M1.out.cell2
  clear hb1 M0 ha1
  cases D with
  | false =>
    have HE : Hid (rr = none) := HRR.out.symm.trans (by unfold doA; rw [if_neg (fun hc => by have := HD.out; rw [dOkB_yes hc.1] at this; cases this)])
    clear M1 x1
    obtain ⟨yc, yf⟩ := HY.out.2 0 _ rfl
    go_wp2_with fail
    refine bodyPost_ret (v := .tuple #[.agg #[.slice none 0 0], .bool false]) (by simp [results, Try.results18, go_sem, yc]) rfl ?_
    rw [HE.out]
    exact ⟨none, 0, rfl, .inl ⟨rfl, rfl⟩, Nat.le_refl _, HB.out.setCell (by simp; omega) _⟩
  | true =>
    have HOK : Hid (DOk fs) := by
      by_cases h : DOk fs
      · exact h
      · have := HD.out; rw [dOkB_no h] at this; cases this
    go_wp2_with fail
    generalize hnb : decide (1 ≤ n.size ∧ n.size ≤ 8) = nb
    refine (l03Name_is n _ nb hnb).mono ?_
    intro e w1' hw1
    obtain ⟨rfl, hww⟩ := hw1
    rw [hww]
    clear hww w1'
    cases nb with
    | false =>
      have HE : Hid (rr = none) := HRR.out.symm.trans (doA_no fun o' ha _ => absurd ha.1 (of_decide_eq_false hnb))
      clear M1 x1 hnb
      obtain ⟨yc, yf⟩ := HY.out.2 0 _ rfl
      go_wp2_with fail
      refine bodyPost_ret (v := .tuple #[.agg #[.slice none 0 0], .bool false]) (by simp [results, Try.results18, go_sem, yc]) rfl ?_
      rw [HE.out]
      exact ⟨none, 0, rfl, .inl ⟨rfl, rfl⟩, Nat.le_refl _, HB.out.setCell (by simp; omega) _⟩
    | true =>
      have HNB : Hid (1 ≤ n.size ∧ n.size ≤ 8) := (of_decide_eq_true hnb : 1 ≤ n.size ∧ n.size ≤ 8)
      clear hnb
      by_cases ht0 : t = ⟨#[]⟩
      · subst ht0
        have HAI : Hid (ActIs ⟨3, n, ⟨#[]⟩, o⟩) := (⟨HNB.out, fun h => absurd rfl h, fun _ => rfl⟩ : ActIs ⟨3, n, ⟨#[]⟩, o⟩)
        go_wp2_with fail
        refine (l03At_any a fs cap n _ (HR.out.stays HB.out) hl).mono ?_
        rintro e w2 ⟨r, rfl, hat, hb2⟩
        have M2 : Shut (Mem w w2 [(w.heap.size + 1 + 1, [.slice none 0 0]), (w.heap.size + 1, [.int .i64 3, .string n, .string ⟨#[]⟩, .string o]), (w.heap.size, [.slice a fs.length cap])] []) := ⟨M1.out.below hb2⟩
        have HY2 : Shut (WCells w2 (w.heap.size + 1 + 1) [.slice none 0 0]) := ⟨M2.out.cells _ (List.mem_cons_self ..)⟩
        have HB2 : Hid (Below w.heap.size w w2) := M2.out.low
        have hs2 : w.heap.size + 1 + 1 < w2.heap.size := HY2.out.1
        have hsa : w.heap.size + 1 < w2.heap.size := by omega
        have hsd : w.heap.size < w2.heap.size := by omega
        have ha2 := M2.out.cells _ (List.mem_cons_of_mem _ (List.mem_cons_self ..))
        clear a0 a1 a2 a3 x1
        obtain ⟨a0, _⟩ := ha2.2 0 _ rfl
        obtain ⟨a1, _⟩ := ha2.2 1 _ rfl
        obtain ⟨a2, _⟩ := ha2.2 2 _ rfl
        obtain ⟨a3, _⟩ := ha2.2 3 _ rfl
        have x2 := M2.out.cell2
        clear hb2 ha2 M1 M2 HY HB
        rcases hat with ⟨rfl, hno⟩ | ⟨j, rfl, hj, h1, h2⟩
        · have HFN : Hid (fileOf fs n = none) := fileOf_not hno
          clear hno
          have HE : Hid (rr = none) := HRR.out.symm.trans (doA_no fun o' _ he => by rw [outA_none (by decide : (3 : Int) ≠ 1) HFN.out] at he; cases he)
          have rc := ((((HY2.out.set 0 (.slice none 0 0) (by simp)).alloc (.cells #[.string n, .string ⟨#[]⟩, .int .i64 0] 64)).alloc (.cells #[.slice none 0 0] 29)).2 0 _ rfl).1
          obtain ⟨yc, yf⟩ := HY2.out.2 0 _ rfl
          go_wp2_with fail
          refine bodyPost_ret (v := .tuple #[.agg #[.slice none 0 0], .bool false]) (by simp [results, Try.results18, go_sem, rc]) rfl ?_
          rw [HE.out]
          exact ⟨none, 0, rfl, .inl ⟨rfl, rfl⟩, Nat.le_refl _, ((HB2.out.setCell (by simp; omega) _).alloc (by have := HB2.out.size; simp [World.setCell]; omega) _).alloc (by have := HB2.out.size; simp [World.setCell]; omega) _⟩
        · have HFN : Hid (fileOf fs n = some (fs.getD j default)) := fileOf_at hj h1 h2
          obtain ⟨b, off, rfl, lb, hc⟩ := FRow.at (HR.out.stays HB2.out) (by omega)
          obtain ⟨d0, d1, d2⟩ := hc j hj
          have hfo := HOK.out.ok fs[j] (List.getElem_mem hj)
          rw [← getD_at fs j hj] at d0 d1 d2 hfo
          generalize fs.getD j default = f at *
          subst h1
          have hft := hfo.2.1
          have hfk0 := hfo.2.2.1
          have hfk1 := hfo.2.2.2
          have j0 : (0 : Int) ≤ (j : Int) := by omega
          have j1 : (j : Int) < (fs.length : Int) := by omega
          clear hc h2 hfo
          by_cases c1 : f.kept < (f.text.size : Int)
          · have HE : Hid (rr = none) := HRR.out.symm.trans (doA_no fun o' _ he => by unfold outA at he; simp [HFN.out, c1] at he)
            have rc := ((((HY2.out.set 0 (.slice none 0 0) (by simp)).alloc (.cells #[.string f.name, .string f.text, .int .i64 f.kept] 64)).alloc (.cells #[.slice none 0 0] 29)).2 0 _ rfl).1
            obtain ⟨yc, yf⟩ := HY2.out.2 0 _ rfl
            go_wp2_with fail
            refine bodyPost_ret (v := .tuple #[.agg #[.slice none 0 0], .bool false]) (by simp [results, Try.results18, go_sem, rc]) rfl ?_
            rw [HE.out]
            exact ⟨none, 0, rfl, .inl ⟨rfl, rfl⟩, Nat.le_refl _, ((HB2.out.setCell (by simp; omega) _).alloc (by have := HB2.out.size; simp [World.setCell]; omega) _).alloc (by have := HB2.out.size; simp [World.setCell]; omega) _⟩
          · by_cases c2 : o = f.name
            · have he : (o.toList == f.name.toList) = true := by rw [c2]; simp
              have HE : Hid (rr = none) := HRR.out.symm.trans (doA_no fun o' _ he => by unfold outA at he; simp [HFN.out, c2] at he)
              clear c2
              have rc := ((((HY2.out.set 0 (.slice none 0 0) (by simp)).alloc (.cells #[.string f.name, .string f.text, .int .i64 f.kept] 64)).alloc (.cells #[.slice none 0 0] 29)).2 0 _ rfl).1
              obtain ⟨yc, yf⟩ := HY2.out.2 0 _ rfl
              go_wp2_with fail
              refine bodyPost_ret (v := .tuple #[.agg #[.slice none 0 0], .bool false]) (by simp [results, Try.results18, go_sem, rc]) rfl ?_
              rw [HE.out]
              exact ⟨none, 0, rfl, .inl ⟨rfl, rfl⟩, Nat.le_refl _, ((HB2.out.setCell (by simp; omega) _).alloc (by have := HB2.out.size; simp [World.setCell]; omega) _).alloc (by have := HB2.out.size; simp [World.setCell]; omega) _⟩
            · have he := str_ne c2
              generalize hnb : decide (1 ≤ o.size ∧ o.size ≤ 8) = nb
              have HC2 : Hid (o ≠ f.name) := c2
              clear c2
              go_wp2_with fail
              refine (l03Name_is o _ nb hnb).mono ?_
              intro e w2' hw2
              obtain ⟨rfl, hww⟩ := hw2
              rw [hww]
              clear hww w2'
              cases nb with
              | false =>
                have HE : Hid (rr = none) := HRR.out.symm.trans (doA_no fun o' _ he => by unfold outA at he; simp [HFN.out] at he; exact fun _ => of_decide_eq_false hnb ⟨he.1.2.2.1, he.1.2.2.2⟩)
                clear hnb
                have rc := ((((HY2.out.set 0 (.slice none 0 0) (by simp)).alloc (.cells #[.string f.name, .string f.text, .int .i64 f.kept] 64)).alloc (.cells #[.slice none 0 0] 29)).2 0 _ rfl).1
                obtain ⟨yc, yf⟩ := HY2.out.2 0 _ rfl
                go_wp2_with fail
                refine bodyPost_ret (v := .tuple #[.agg #[.slice none 0 0], .bool false]) (by simp [results, Try.results18, go_sem, rc]) rfl ?_
                rw [HE.out]
                exact ⟨none, 0, rfl, .inl ⟨rfl, rfl⟩, Nat.le_refl _, ((HB2.out.setCell (by simp; omega) _).alloc (by have := HB2.out.size; simp [World.setCell]; omega) _).alloc (by have := HB2.out.size; simp [World.setCell]; omega) _⟩
              | true =>
                have hob := of_decide_eq_true hnb
                have HOA : Hid (outA fs ⟨3, f.name, ⟨#[]⟩, o⟩ = some (putF ⟨o, f.text, f.kept⟩ (withoutF f.name fs))) := (by unfold outA; simp [HFN.out, HC2.out]; exact ⟨by omega, hob.1, hob.2⟩ : outA fs ⟨3, f.name, ⟨#[]⟩, o⟩ = some (putF ⟨o, f.text, f.kept⟩ (withoutF f.name fs)))
                have hpp := FFit.put (ok_without HOK.out f.name) ⟨o, f.text, f.kept⟩ ho (by show f.text.size ≤ _; omega) (by constructor <;> first | (show _ ≤ f.kept; omega) | (show f.kept ≤ _; omega))
                have HFO : Hid (FFit (putF ⟨o, f.text, f.kept⟩ (withoutF f.name fs))) := hpp.1
                have hlo : (putF ⟨o, f.text, f.kept⟩ (withoutF f.name fs)).length ≤ 1048576 := by have := hpp.2; omega
                clear hpp hnb hob
                have HB4 : Hid (Below w.heap.size w ((w2.alloc (.cells #[.string o, .string f.text, .int .i64 f.kept] 64)).alloc (.cells #[.slice none 0 0] 29))) := (HB2.out.alloc HB2.out.size _).alloc (by have := HB2.out.size; simp; omega) _
                have HQ4 : Shut (WCells ((w2.alloc (.cells #[.string o, .string f.text, .int .i64 f.kept] 64)).alloc (.cells #[.slice none 0 0] 29)) (w2.heap.size + 1) [.slice none 0 0]) := ⟨by have := wcells_new (w2.alloc (.cells #[.string o, .string f.text, .int .i64 f.kept] 64)) #[.slice none 0 0] 29; simpa using this⟩
                have HY4 : Shut (WCells ((w2.alloc (.cells #[.string o, .string f.text, .int .i64 f.kept] 64)).alloc (.cells #[.slice none 0 0] 29)) (w.heap.size + 1 + 1) [.slice none 0 0]) := ⟨(HY2.out.alloc _).alloc _⟩
                have HG4 : Shut (WCells ((w2.alloc (.cells #[.string o, .string f.text, .int .i64 f.kept] 64)).alloc (.cells #[.slice none 0 0] 29)) w2.heap.size (fcells ⟨o, f.text, f.kept⟩)) := ⟨(wcells_new w2 #[.string o, .string f.text, .int .i64 f.kept] 64).alloc _⟩
                have hwl := (ok_without HOK.out f.name).1
                go_wp2_with fail
                have hS4 : Shut (S5 ((w2.alloc (.cells #[.string o, .string f.text, .int .i64 f.kept] 64)).alloc (.cells #[.slice none 0 0] 29)) w.heap.size (w.heap.size + 1) w2.heap.size (.slice (some ⟨b, off, none⟩) fs.length cap) f.name ⟨o, f.text, f.kept⟩) := ⟨⟨((((Below.refl _ _).alloc (Nat.le_refl _) _).alloc (by simp) _ : Below w2.heap.size w2 ((w2.alloc (.cells #[.string o, .string f.text, .int .i64 f.kept] 64)).alloc (.cells #[.slice none 0 0] 29))).cell (p := ⟨w.heap.size, 0, none⟩) hsd).trans x2, ((((Below.refl _ _).alloc (Nat.le_refl _) _).alloc (by simp) _ : Below w2.heap.size w2 ((w2.alloc (.cells #[.string o, .string f.text, .int .i64 f.kept] 64)).alloc (.cells #[.slice none 0 0] 29))).cell (p := ⟨w.heap.size + 1, 1, none⟩) hsa).trans a1, (HG4.out.2 0 _ rfl).1, (HG4.out.2 1 _ rfl).1, (HG4.out.2 2 _ rfl).1⟩⟩
                go_region_held3 (fun w' => w'.cell? ⟨w.heap.size, 0, none⟩ = some (.slice (some ⟨b, off, none⟩) fs.length cap) ∧ w'.cell? ⟨w.heap.size + 1, 1, none⟩ = some (.string f.name) ∧ w'.cell? ⟨w2.heap.size, 0, none⟩ = some (.string o) ∧ w'.cell? ⟨w2.heap.size, 1, none⟩ = some (.string f.text) ∧ w'.cell? ⟨w2.heap.size, 2, none⟩ = some (.int .i64 f.kept))
                  (first | assumption | (exact hS4.out) | (exact S5.below (f := ⟨o, f.text, f.kept⟩) (by assumption) hb6) | (exact S5.below (f := ⟨o, f.text, f.kept⟩) (by assumption) hb5) | (exact S5.set (f := ⟨o, f.text, f.kept⟩) (by assumption) _ (by simp; omega) (by simp; omega) (by simp)))
                  (first
                    | (go_at_call 47; refine (l03Without_any _ fs cap f.name _ (HR.out.stays HB4.out.drew) hl).mono ?_; rintro e w5 ⟨v5, rfl, hown5, hb5⟩; obtain ⟨va5, vc5, rfl⟩ := own_form hown5)
                    | (go_at_call 46; refine (l03Put_any va5 (withoutF f.name fs) vc5 ⟨o, f.text, f.kept⟩ _ (FRw.of_own hown5).1.crow (by omega)).mono ?_; rintro e w6 ⟨v6, rfl, hown6, hb6⟩; obtain ⟨va6, vc6, rfl⟩ := own_form hown6; have hq6 := (WCells.grow (w := World.drew ((w2.alloc (.cells #[.string o, .string f.text, .int .i64 f.kept] 64)).alloc (.cells #[.slice none 0 0] 29))) HQ4.out hb5).grow hb6; obtain ⟨q0, q1⟩ := hq6.2 0 _ rfl))
                all_goals
                  have HY : Shut (WCells w6 (w.heap.size + 1 + 1) [.slice none 0 0]) := ⟨(WCells.grow (w := World.drew ((w2.alloc (.cells #[.string o, .string f.text, .int .i64 f.kept] 64)).alloc (.cells #[.slice none 0 0] 29))) HY4.out hb5).grow hb6⟩
                  have HQ : Shut (WCells w6 (w2.heap.size + 1) [.slice none 0 0]) := ⟨hq6⟩
                  have HB5 : Hid (Below w.heap.size w w5) := HB4.out.drew.trans (hb5.mono (by have := HB2.out.size; simp; omega))
                  have HB : Hid (Below w.heap.size w w6) := HB5.out.trans (hb6.mono HB5.out.size)
                  have hsz5 : w2.heap.size + 2 ≤ w5.heap.size := by have := hb5.size; simpa using this
                  have hown5' := hown6
                  clear hq6 hb5 hb6 hown5 HB5 HQ4 HY4 HG4 HB4 a0 a1 a2 a3 x2 d0 d1 d2 hS4
                  have HQ6 : Shut (WCells (w6.setCell ⟨w2.heap.size + 1, 0, none⟩ (.slice va6 (putF ⟨o, f.text, f.kept⟩ (withoutF f.name fs)).length vc6)) (w2.heap.size + 1) [.slice va6 (putF ⟨o, f.text, f.kept⟩ (withoutF f.name fs)).length vc6]) := ⟨HQ.out.set 0 (.slice va6 (putF ⟨o, f.text, f.kept⟩ (withoutF f.name fs)).length vc6) (by simp)⟩
                  have HY6 : Shut (WCells (w6.setCell ⟨w2.heap.size + 1, 0, none⟩ (.slice va6 (putF ⟨o, f.text, f.kept⟩ (withoutF f.name fs)).length vc6)) (w.heap.size + 1 + 1) [.slice none 0 0]) := ⟨HY.out.other _ _ (by simp; omega)⟩
                  have HB6 : Hid (Below w.heap.size w (w6.setCell ⟨w2.heap.size + 1, 0, none⟩ (.slice va6 (putF ⟨o, f.text, f.kept⟩ (withoutF f.name fs)).length vc6))) := HB.out.setCell (by simp; omega) _
                  have HO6 : Shut ((w6.setCell ⟨w2.heap.size + 1, 0, none⟩ (.slice va6 (putF ⟨o, f.text, f.kept⟩ (withoutF f.name fs)).length vc6)).ownsRow (w2.heap.size + 2) 64 3 (.slice va6 (putF ⟨o, f.text, f.kept⟩ (withoutF f.name fs)).length vc6) (putF ⟨o, f.text, f.kept⟩ (withoutF f.name fs)).length (fcs (putF ⟨o, f.text, f.kept⟩ (withoutF f.name fs)))) := ⟨own_other (own_wider hown5' hsz5) (show w2.heap.size + 1 < w2.heap.size + 2 by omega) _ rfl _ rfl⟩
                  clear hown5' HY HQ HB hsz5
                  generalize hOUT : putF ⟨o, f.text, f.kept⟩ (withoutF f.name fs) = out at *
                  clear hOUT
                  go_wp2_with fail
                  refine (specDiskOk va6 out vc6 _ (FRw.of_own HO6.out).1.crow HFO.out hlo).mono ?_
                  generalize hD2 : dOkB out = D2
                  rintro e w7 ⟨rfl, hb7⟩
                  have HY7 : Shut (WCells w7 (w.heap.size + 1 + 1) [.slice none 0 0]) := ⟨HY6.out.grow hb7⟩
                  have HQ7 : Shut (WCells w7 (w2.heap.size + 1) [.slice va6 out.length vc6]) := ⟨HQ6.out.grow hb7⟩
                  have HB7 : Hid (Below w.heap.size w w7) := HB6.out.trans (hb7.mono HB6.out.size)
                  have HO7 : Shut (w7.ownsRow (w2.heap.size + 2) 64 3 (.slice va6 out.length vc6) out.length (fcs out)) := ⟨own_below HO6.out hb7⟩
                  clear hb7 HY6 HQ6 HB6 HO6
                  obtain ⟨yc, yf⟩ := HY7.out.2 0 _ rfl
                  obtain ⟨qc, qf⟩ := HQ7.out.2 0 _ rfl
                  cases D2 with
                  | false =>
                    have HE : Hid (rr = none) := HRR.out.symm.trans (doA_no fun o' ha he hd => by rw [HOA.out] at he; cases he; rw [dOkB_yes hd] at hD2; cases hD2)
                    clear hD2
                    go_wp2_with fail
                    refine bodyPost_ret (v := .tuple #[.agg #[.slice none 0 0], .bool false]) (by simp [results, Try.results18, go_sem, yc]) rfl ?_
                    rw [HE.out]
                    exact ⟨none, 0, rfl, .inl ⟨rfl, rfl⟩, Nat.le_refl _, HB7.out.setCell (by simp; omega) _⟩
                  | true =>
                    have HE : Hid (rr = some out) := HRR.out.symm.trans (doA_of HOK.out HAI.out HOA.out (by by_cases h : DOk out; exact h; rw [dOkB_no h] at hD2; cases hD2))
                    clear hD2
                    go_wp2_with fail
                    refine bodyPost_ret (v := .tuple #[.agg #[.slice va6 out.length vc6], .bool true]) (by simp [results, Try.results18, go_sem, yc]) rfl ?_
                    rw [HE.out]
                    have ho8 := own_wider (C := w.heap.size) (own_other HO7.out (show w.heap.size + 1 + 1 < w2.heap.size + 2 by omega) ⟨w.heap.size + 1 + 1, 0, none⟩ rfl (.slice va6 out.length vc6) rfl) (by omega)
                    obtain ⟨hf8, hc8⟩ := FRw.of_own ho8
                    exact ⟨va6, vc6, rfl, hf8, hc8, HB7.out.setCell (by simp; omega) _⟩
      · have hte := not_empty ht0
        have HE : Hid (rr = none) := HRR.out.symm.trans (doA_wrong (.inl ⟨(by decide : (3 : Int) ≠ 1), ht0⟩))
        clear M1 x1
        clear ht0
        obtain ⟨yc, yf⟩ := HY.out.2 0 _ rfl
        go_wp2_with fail
        refine bodyPost_ret (v := .tuple #[.agg #[.slice none 0 0], .bool false]) (by simp [results, Try.results18, go_sem, yc]) rfl ?_
        rw [HE.out]
        exact ⟨none, 0, rfl, .inl ⟨rfl, rfl⟩, Nat.le_refl _, HB.out.setCell (by simp; omega) _⟩
end Go.Proofs.Ytkkpddcncpdnpaa
