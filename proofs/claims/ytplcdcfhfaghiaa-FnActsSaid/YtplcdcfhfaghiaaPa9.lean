/- Texts of ours, laid one behind the other: LawLose, ImD, DrAc, DrPl, SpA, SpB. -/
import Derived.Test.YtplcdcfhfaghiaaPa8
/- LawLose: The law on LoseDisk: its walk. -/
namespace Go.Proofs.Ytplcdcfhfaghiaa
set_option maxRecDepth 100000
open Go.RowKit
attribute [local go_sem ↓] Go.wp_at_zero Go.wp_at_succ

/-- Through the comparison of an argument with what came in. -/
theorem LMem.keep {w0 w w' : World} {L : List (Nat × List Value)} {R : List (Option Addr × List Value × Nat × Nat)} {p q : Nat} {u v : Value} (h : w.cell? ⟨p, 0, none⟩ = some u ∧ w.cell? ⟨q, 0, none⟩ = some v ∧ Shut (Mem w0 w L R)) (hb : Below w.heap.size w w') :
    w'.cell? ⟨p, 0, none⟩ = some u ∧ w'.cell? ⟨q, 0, none⟩ = some v ∧ Shut (Mem w0 w' L R) :=
  ⟨(hb.cell (p := ⟨p, 0, none⟩) (cell_lt h.1)).trans h.1, (hb.cell (p := ⟨q, 0, none⟩) (cell_lt h.2.1)).trans h.2.1, ⟨h.2.2.out.below hb⟩⟩
theorem LMem.x0 {w0 w : World} {L : List (Nat × List Value)} {R : List (Option Addr × List Value × Nat × Nat)} {p q : Nat} {u v : Value} {r0 r1 : Option Addr × List Value × Nat × Nat} {va : Option Addr} {X : List Value} {lo hi : Nat} (h : w.cell? ⟨p, 0, none⟩ = some u ∧ w.cell? ⟨q, 0, none⟩ = some v ∧ Shut (Mem w0 w L (r0 :: r1 :: (va, X, lo, hi) :: R))) : CRow w va X := h.2.2.out.at2.crow
/-- The disk behind a loss of power. -/
noncomputable def lostD (fs : List FM) (left : List Int) : List FM := if dOkB fs then lostTo fs left fs.length else []
theorem lostD_len (fs : List FM) (left : List Int) : (lostD fs left).length ≤ fs.length := by
  unfold lostD
  split
  · rw [lostTo_len]; exact Nat.le_refl _
  · simp
theorem LosePost.made {fs : List FM} {left : List Int} {w w' : World} {e : Ending} (h : LosePost fs left w e w') : DiskPost (lostD fs left) (.bool (dOkB fs)) w e w' := by
  obtain ⟨v, rfl, hown, hb⟩ := h
  have e1 : (if dOkB fs then (lostTo fs left fs.length).length else 0) = (lostD fs left).length := by unfold lostD; split <;> simp
  have e2 : (if dOkB fs then fcs (lostTo fs left fs.length) else []) = fcs (lostD fs left) := by unfold lostD; split <;> simp [fcs]
  rw [e1, e2] at hown
  obtain ⟨va, c, rfl⟩ := own_formD hown
  obtain ⟨h1, h2⟩ := FRw.of_own hown
  exact ⟨va, c, rfl, h1, h2, hb⟩
end Go.Proofs.Ytplcdcfhfaghiaa
/- ImD: The program's own walks: acts, one and many; acts that are cut by a loss of power. -/
namespace Go.Proofs.Ytplcdcfhfaghiaa
set_option maxRecDepth 100000
open Go.RowKit Go.Maps
attribute [local go_sem ↓] Go.wp_at_zero Go.wp_at_succ

/-- Acts that may be worked on. -/
def AGood (xs : List AM) : Prop := ∀ x ∈ xs, x.name.size ≤ 9223372036854775807 ∧ x.text.size ≤ 1048576 ∧ x.dst.size ≤ 9223372036854775807
theorem MadeDisk.made {fs : List FM} {w w' : World} {e : Ending} (h : MadeDisk fs w e w') : ∃ va c, e = .returned (.agg #[.slice va fs.length c]) ∧ FRw w' va (fcs fs) w.heap.size w'.heap.size ∧ fs.length ≤ c ∧ Below w.heap.size w w' := by
  obtain ⟨v, rfl, hown, hb⟩ := h
  obtain ⟨va, c, rfl⟩ := own_formD hown
  obtain ⟨h1, h2⟩ := FRw.of_own hown
  exact ⟨va, c, rfl, h1, h2, hb⟩
set_option maxHeartbeats 1000000 in
set_option maxRecDepth 100000 in
theorem implDoActs (a c : Option Addr) (fs : List FM) (xs : List AM) (cap capx : Nat) (w : World) (hr : FRow w a fs) (hf : FFit fs) (hl : fs.length ≤ 1048576) (hfs : fsum fs ≤ 1048576) (hx : ARow w c xs) (hxg : AGood xs) (hxl : xs.length ≤ 1048576) :
    Calls Try.prog 6 #[.agg #[.slice a fs.length cap], .slice c xs.length capx] w fun e w' => DiskPost (doAs fs xs).1 (.int .i64 ((doAs fs xs).2 : Nat)) w e w' := by
  have hb0 : Below w.heap.size w ((w.alloc (.cells #[.slice a fs.length cap] 26)).alloc (.cells #[.slice none 0 0] 26)) := ((Below.refl _ _).alloc (Nat.le_refl _) _).alloc (by simp) _
  have HR : Hid (FRow w a fs) := hr
  have HR0 : Hid (FRow ((w.alloc (.cells #[.slice a fs.length cap] 26)).alloc (.cells #[.slice none 0 0] 26)) a fs) := hr.stays hb0
  have HF : Hid (FFit fs) := hf
  have HXR : Hid (ARow w c xs) := hx
  have HXG : Hid (AGood xs) := hxg
  have hx0 := (wcells_new w #[.slice a fs.length cap] 26).alloc (.cells #[.slice none 0 0] 26)
  have hy0 := wcells_new (w.alloc (.cells #[.slice a fs.length cap] 26)) #[.slice none 0 0] 26
  simp only [World.size_alloc] at hx0 hy0
  have HX0 : Shut (WCells ((w.alloc (.cells #[.slice a fs.length cap] 26)).alloc (.cells #[.slice none 0 0] 26)) w.heap.size [.slice a fs.length cap]) := ⟨hx0⟩
  have HY0 : Shut (WCells ((w.alloc (.cells #[.slice a fs.length cap] 26)).alloc (.cells #[.slice none 0 0] 26)) (w.heap.size + 1) [.slice none 0 0]) := ⟨hy0⟩
  have HB0 : Hid (Below w.heap.size w ((w.alloc (.cells #[.slice a fs.length cap] 26)).alloc (.cells #[.slice none 0 0] 26))) := hb0
  have HSM : Hid (∀ f ∈ fs, f.name.size ≤ 281474976710656 ∧ f.text.size ≤ 281474976710656) := fun f hf => by have := fsum_mem hf; omega
  generalize hD : dOkB fs = D
  have HD : Hid (dOkB fs = D) := hD
  generalize hrr : doAs fs xs = rr
  have HRR : Hid (doAs fs xs = rr) := hrr
  clear hr hf hx hxg hx0 hy0 hb0 hD hrr hfs
  go_enter Try.func6, Try.ntmps6
  go_wp2_with fail
  refine (implDiskOk a fs cap _ HR0.out HF.out hl).mono ?_
  rw [HD.out]
  rintro e w1 ⟨rfl, hb1⟩
  have HX1 : Shut (WCells w1 w.heap.size [.slice a fs.length cap]) := ⟨HX0.out.grow hb1⟩
  have HY1 : Shut (WCells w1 (w.heap.size + 1) [.slice none 0 0]) := ⟨HY0.out.grow hb1⟩
  have HB1 : Hid (Below w.heap.size w w1) := HB0.out.trans (hb1.mono HB0.out.size)
  have x1 := (HX1.out.2 0 _ rfl).1
  clear hb1 HX0 HY0 HB0
  cases D with
  | false =>
    have HEQ : Hid (rr = (fs, 0)) := HRR.out.symm.trans (doAs_bad (fun h => by have := HD.out; rw [dOkB_yes h] at this; cases this) xs)
    go_wp2_with fail
    refine (copyOf_any a fs cap _ (HR.out.stays HB1.out) hl HSM.out).mono ?_
    rintro e w7 ⟨v7, rfl, hown7, hb7⟩
    obtain ⟨yc, yf⟩ := (HY1.out.grow hb7).2 0 _ rfl
    have HB7 : Hid (Below w.heap.size w w7) := HB1.out.trans (hb7.mono HB1.out.size)
    have hs7 := HY1.out.1
    obtain ⟨va7, vcap7, rfl⟩ := own_formD hown7
    have HW7 : Hid (w.heap.size ≤ w1.heap.size) := HB1.out.size
    clear hb7
    go_wp2_with fail
    refine bodyPost_ret (v := .tuple #[.agg #[.slice va7 fs.length vcap7], .int .i64 (0 : Nat)]) (by simp [results, Try.results6, go_sem, yc]) rfl ?_
    rw [HEQ.out]
    have hown8 := own_wider (C := w.heap.size) (own_other hown7 hs7 ⟨w.heap.size + 1, 0, none⟩ rfl (.slice va7 fs.length vcap7) rfl) (by have := HW7.out; omega)
    obtain ⟨hf, hc⟩ := FRw.of_own hown8
    exact ⟨va7, vcap7, rfl, hf, hc, HB7.out.setCell (by simp) _⟩
  | true =>
    have HOK0 : Hid (DOk fs) := by
      by_cases h : DOk fs
      · exact h
      · have := HD.out; rw [dOkB_no h] at this; cases this
    go_wp2_with fail
    refine (shelfOf_any a fs cap _ (HR.out.stays HB1.out) HOK0.out).mono ?_
    rintro e w2 ⟨b, rfl, hsh2, hb2⟩
    have HSH2 : Hid (Shelf w2 w1.heap.size b fs) := hsh2
    have HB2 : Hid (Below w1.heap.size w1 w2) := hb2
    clear hsh2 hb2 x1 HX1
    go_wp2_with fail
    go_loopw [7] (fun v wr => ∃ (k : Nat) (cur : List FM), v = .int .i64 k ∧ k ≤ xs.length ∧ Shut (Ran fs xs k cur ∧ DOk cur) ∧ Shelf wr w1.heap.size b cur ∧ Below w1.heap.size w1 wr) (fun v _ => xs.length - (intOf v).toNat)
    case atStart => exact ⟨0, fs, rfl, Nat.zero_le _, ⟨Ran.start fs xs, HOK0.out⟩, HSH2.out, HB2.out⟩
    case round =>
      clear HSH2 HB2
      obtain ⟨k, cur, rfl, hk, hran, hsh, hbr⟩ := hrel
      have HY : Shut (WCells wr (w.heap.size + 1) [.slice none 0 0]) := ⟨HY1.out.grow hbr⟩
      have HB : Hid (Below w.heap.size w wr) := HB1.out.trans (hbr.mono HB1.out.size)
      have HSH : Hid (Shelf wr w1.heap.size b cur) := hsh
      have HOK : Hid (DOk cur) := hran.out.2
      by_cases hlt : k < xs.length
      · obtain ⟨bx, off, rfl, lb, hc⟩ := ARow.at (HXR.out.stays HB.out) (by omega)
        obtain ⟨d0, d1, d2, d3⟩ := hc k hlt
        have hgood := HXG.out xs[k] (List.getElem_mem hlt)
        have HST : Hid (∀ o, doA cur xs[k] = some o → Ran fs xs (k + 1) o) := fun o ho => hran.out.1.step hlt ho
        have HSP : Hid (doA cur xs[k] = none → doAs fs xs = (cur, k)) := fun ho => hran.out.1.stop hlt ho
        obtain ⟨x, hxe⟩ : ∃ x, x = xs[k] := ⟨_, rfl⟩
        rw [← hxe] at d0 d1 d2 d3 hgood HST HSP
        obtain ⟨g1, g2, g3⟩ := hgood
        have hbsz := hbr.size
        have HBR : Hid (Below w1.heap.size w1 wr) := hbr
        have k0 : (0 : Int) ≤ (k : Int) := by omega
        have k1 : (k : Int) < (xs.length : Int) := by omega
        clear hxe hc hbr hsh hran
        go_wp2_with fail
        refine (do_any b w1.heap.size cur x _ HSH.out HOK.out g1 g2 g3 hbsz).mono ?_
        generalize hre : doA cur x = r
        rintro e w4 ⟨rfl, hs4, hb4⟩
        have HB4 : Hid (Below w1.heap.size w1 w4) := HBR.out.trans hb4
        clear HSH HB HY hb4 HBR d0 d1 d2 d3
        have HY : Shut (WCells w4 (w.heap.size + 1) [.slice none 0 0]) := ⟨HY1.out.grow HB4.out⟩
        have HB : Hid (Below w.heap.size w w4) := HB1.out.trans (HB4.out.mono HB1.out.size)
        cases r with
        | none =>
          have HSH : Hid (Shelf w4 w1.heap.size b cur) := hs4
          have HEQ : Hid (rr = (cur, k)) := HRR.out.symm.trans (HSP.out hre)
          clear hs4 hre HST HSP
          go_wp2_with fail
          refine (disk_any b w1.heap.size cur _ HSH.out HOK.out).mono ?_
          rintro e w7 ⟨v7, rfl, hown7, hb7⟩
          obtain ⟨yc, yf⟩ := (HY.out.grow hb7).2 0 _ rfl
          have HB7 : Hid (Below w.heap.size w w7) := HB.out.trans (hb7.mono HB.out.size)
          have hs7 := HY.out.1
          obtain ⟨va7, vcap7, rfl⟩ := own_formD hown7
          have HW7 : Hid (w.heap.size ≤ w4.heap.size) := HB.out.size
          clear hb7
          go_wp2_with fail
          show bodyPost Try.prog Try.f6 _ Exit.ret _ _
          refine bodyPost_ret (v := .tuple #[.agg #[.slice va7 cur.length vcap7], .int .i64 (k : Nat)]) (by simp [results, Try.results6, go_sem, yc]) rfl ?_
          rw [HEQ.out]
          have hown8 := own_wider (C := w.heap.size) (own_other hown7 hs7 ⟨w.heap.size + 1, 0, none⟩ rfl (.slice va7 cur.length vcap7) rfl) (by have := HW7.out; omega)
          obtain ⟨hf, hc⟩ := FRw.of_own hown8
          exact ⟨va7, vcap7, rfl, hf, hc, HB7.out.setCell (by simp) _⟩
        | some o =>
          have HOO : Shut (Ran fs xs (k + 1) o ∧ DOk o) := ⟨HST.out o hre, doA_ok hre⟩
          have HSH : Hid (Shelf w4 w1.heap.size b o) := hs4
          clear hs4 hre HST HSP
          go_wp2_with fail
          go_roundw
          case rel => exact ⟨k + 1, o, by go_num, by omega, HOO, HSH.out, HB4.out⟩
          case measure => simp [intOf]; omega
      · have e : k = xs.length := by omega
        subst e
        have HEQ : Hid (rr = (cur, xs.length)) := HRR.out.symm.trans hran.out.1.all
        clear hbr hsh hran
        go_wp2_with fail
        refine (disk_any b w1.heap.size cur _ HSH.out HOK.out).mono ?_
        rintro e w7 ⟨v7, rfl, hown7, hb7⟩
        obtain ⟨yc, yf⟩ := (HY.out.grow hb7).2 0 _ rfl
        have HB7 : Hid (Below w.heap.size w w7) := HB.out.trans (hb7.mono HB.out.size)
        have hs7 := HY.out.1
        obtain ⟨va7, vcap7, rfl⟩ := own_formD hown7
        have HW7 : Hid (w.heap.size ≤ wr.heap.size) := HB.out.size
        clear hb7
        go_wp2_with fail
        show bodyPost Try.prog Try.f6 _ Exit.ret _ _
        refine bodyPost_ret (v := .tuple #[.agg #[.slice va7 cur.length vcap7], .int .i64 (xs.length : Nat)]) (by simp [results, Try.results6, go_sem, yc]) rfl ?_
        rw [HEQ.out]
        have hown8 := own_wider (C := w.heap.size) (own_other hown7 hs7 ⟨w.heap.size + 1, 0, none⟩ rfl (.slice va7 cur.length vcap7) rfl) (by have := HW7.out; omega)
        obtain ⟨hf, hc⟩ := FRw.of_own hown8
        exact ⟨va7, vcap7, rfl, hf, hc, HB7.out.setCell (by simp) _⟩
theorem doAs_one (fs : List FM) (x : AM) : doAs fs [x] = ((doA fs x).getD fs, if (doA fs x).isSome then 1 else 0) := by
  cases h : doA fs x <;> simp [doAs, h]
set_option maxHeartbeats 1000000 in
set_option maxRecDepth 100000 in
theorem implDoAct (a : Option Addr) (fs : List FM) (x : AM) (cap : Nat) (w : World) (hr : FRow w a fs) (hf : FFit fs) (hl : fs.length ≤ 1048576) (hfs : fsum fs ≤ 1048576) (hxg : AGood [x]) :
    Calls Try.prog 9 #[.agg #[.slice a fs.length cap], av x] w fun e w' => DiskPost ((doA fs x).getD []) (.bool (doA fs x).isSome) w e w' := by
  have HR : Hid (FRow w a fs) := hr
  have HF : Hid (FFit fs) := hf
  have HXG : Hid (AGood [x]) := hxg
  have m0 : Mem w w [] [] := ⟨by simp, by simp, Below.refl _ _⟩
  have m1 := ((m0.box #[.slice a fs.length cap] 26).box #[.int .i64 x.kind, .string x.name, .string x.text, .string x.dst] 37).box #[.slice none 0 0] 26
  have m2 := m1.box #[.int .i64 x.kind, .string x.name, .string x.text, .string x.dst] 37
  simp only [World.size_alloc] at m2
  have M2 : Shut _ := ⟨m2⟩
  generalize hrr : doA fs x = r
  have HRR : Hid (doA fs x = r) := hrr
  clear hr hf hxg m0 m1 m2 hrr
  go_enter Try.func9, Try.ntmps9
  go_wp2_with fail
  refine (implDoActs a (some ⟨w.heap.size + 1 + 1 + 1, 0, none⟩) fs [x] cap 1 _ (HR.out.stays M2.out.low) HF.out hl hfs (M2.out.cells _ (List.mem_cons_self ..)).crow HXG.out (by simp)).mono ?_
  rw [doAs_one, HRR.out]
  rintro e w3 ⟨va, c, rfl, hf3, hc3, hb3⟩
  have M3 := M2.out.below hb3
  have y3 := (M3.cells _ (List.mem_cons_of_mem _ (List.mem_cons_self ..))).2 0 _ rfl
  obtain ⟨yc, yf⟩ := y3
  have hs3 : w.heap.size + 1 + 1 < w3.heap.size := (M3.cells _ (List.mem_cons_of_mem _ (List.mem_cons_self ..))).1
  have HB3 : Hid (Below w.heap.size w w3) := M3.low
  have hlo : w.heap.size + 1 + 1 + 1 + 1 ≤ w3.heap.size := by have := hb3.size; simpa using this
  have hyw : WCells w3 (w.heap.size + 1 + 1) [.slice none 0 0] := M3.cells _ (List.mem_cons_of_mem _ (List.mem_cons_self ..))
  have HYW : Shut (WCells w3 (w.heap.size + 1 + 1) [.slice none 0 0]) := ⟨hyw⟩
  have HF3 : Shut (FRw w3 va (fcs (r.getD fs)) (w.heap.size + 1 + 1 + 1 + 1) w3.heap.size) := ⟨by simpa using hf3⟩
  clear M2 M3 hb3 hf3 hyw
  cases r with
  | none =>
    have rc := (((HYW.out.set 0 (.slice none 0 0) (by simp)).alloc (.cells #[.slice va fs.length c] 26)).2 0 _ rfl).1
    go_wp2_with fail
    refine bodyPost_ret (v := .tuple #[.agg #[.slice none 0 0], .bool false]) (by simp [results, Try.results9, go_sem, rc]) rfl ⟨none, 0, rfl, .inl ⟨rfl, rfl⟩, Nat.le_refl _, (HB3.out.setCell (by simp; omega) _).alloc (by have := HB3.out.size; simp [World.setCell]; omega) _⟩
  | some o =>
    have rc := (((HYW.out.set 0 (.slice va o.length c) (by simp)).alloc (.cells #[.slice va o.length c] 26)).2 0 _ rfl).1
    go_wp2_with fail
    refine bodyPost_ret (v := .tuple #[.agg #[.slice va o.length c], .bool true]) (by simp [results, Try.results9, go_sem, rc]) rfl ⟨va, c, rfl, ?_, hc3, (HB3.out.setCell (by simp; omega) _).alloc (by have := HB3.out.size; simp [World.setCell]; omega) _⟩
    rcases HF3.out with h | ⟨g, h1, h2, h3, h4⟩
    · exact .inl h
    · exact .inr ⟨g, h1, by omega, by simp [World.setCell]; omega, (h4.other _ _ (by simp; omega)).alloc _⟩
end Go.Proofs.Ytplcdcfhfaghiaa
/- DrAc: The model's draws of an act, of a place, of what is left (written by gen/mkdrac.py). -/
namespace Go.Proofs.Ytplcdcfhfaghiaa
set_option maxRecDepth 100000
open Go.RowKit BigFrame
attribute [local go_sem ↓] Go.wp_at_zero Go.wp_at_succ

/-- An act as it is drawn. -/
def ADk (x : AM) : Prop := x.name.size ≤ 9 ∧ x.text.size ≤ 9 ∧ x.dst.size ≤ 9
def ActDrawn (w0 : World) (g B : Nat) (a : Option Addr) (len cap : Nat) (S : List Str) (e : Ending) (w' : World) : Prop :=
  ∃ x : AM, e = .returned (av x) ∧ ADk x ∧ SD w0 w' g B a len cap S
theorem wpcall_shade {P : Program} {f : FuncId} {args : Array Value} {W : World} {Q : Ending → World → Prop} (T : World → Prop) (h : T W) (k : ∀ W', T W' → Calls P f args W' Q) : Calls P f args W Q := k W h
theorem sd_ne {w0 x : World} {g B len cap lb : Nat} {a : Option Addr} {S : List Str} {X : List Value} (h : SD w0 x g B a len cap (bxS lb X :: S)) : lb ≠ g := by
  have := h.far _ (List.mem_cons_self ..)
  dsimp only [bxS] at this
  omega
set_option maxRecDepth 1000000 in
set_option maxHeartbeats 8000000 in
theorem l03Act_any {w0 W : World} {g B len cap : Nat} {a : Option Addr} {S : List Str} (h : SD w0 W g B a len cap S) :
    Calls Try.prog 36 #[.pointer (some ⟨g, 0, none⟩)] W fun e W' => ActDrawn w0 g B a len cap S e W' := by
  have HR := Shut.mk (h.new #[.int .i64 0, .string ⟨#[]⟩, .string ⟨#[]⟩, .string ⟨#[]⟩] 37)
  obtain ⟨rb, hrb⟩ : ∃ q, q = W.heap.size := ⟨_, rfl⟩
  rw [← hrb] at HR
  clear h
  go_enter Try.func36, Try.ntmps36
  go_upto_region 1 with fail
  refine wp_shade (fun W' => SD w0 W' g B a len cap (bxS rb [.int .i64 0, .string ⟨#[]⟩, .string ⟨#[]⟩, .string ⟨#[]⟩] :: S)) HR.out ?_
  intro W1 hW1
  have HW := Shut.mk hW1
  rw [← hrb]
  clear HR hW1 hrb
  go_wp2_with fail
  refine (HW.out.pick 4 (by omega)).mono ?_
  rintro e w2 ⟨k0, rfl, k1, k2, hd⟩
  replace HW := Shut.mk (HW.out.draw hd)
  clear hd
  have hk3 : k0 ≤ 3 := by omega
  have hwk : IntKind.i64.wrap (1 + k0) = 1 + k0 := IntWalk.i64_in _ ⟨by omega, by omega⟩
  clear k2
  go_wp2_with fail
  refine (l03Named_any _ g B a len cap HW.out.cur).mono ?_
  rintro e w3 ⟨nq, rfl, n1, n2, hc5, hg5⟩
  replace HW := Shut.mk (HW.out.draw ⟨hg5, fun _ => hc5⟩)
  clear hc5 hg5
  have HX := Shut.mk (HW.out.new #[.int .i64 (1 + k0), .string nq, .string ⟨#[]⟩, .string ⟨#[]⟩] 37)
  obtain ⟨ab, hab⟩ : ∃ q, q = w3.heap.size := ⟨_, rfl⟩
  rw [← hab] at HX
  go_upto_region 2 with fail
  obtain ⟨kd, hkd⟩ : ∃ q, q = 1 + k0 := ⟨_, rfl⟩
  rw [← hkd] at HX ⊢
  refine wp_shade (fun W' => SD w0 W' g B a len cap (bxS ab [.int .i64 kd, .string nq, .string ⟨#[]⟩, .string ⟨#[]⟩] :: bxS rb [.int .i64 0, .string ⟨#[]⟩, .string ⟨#[]⟩, .string ⟨#[]⟩] :: S)) HX.out ?_
  intro W4 hW4
  rw [← hab]
  replace HW := Shut.mk hW4
  clear HX hW4 hab hkd hwk
  have HA : Shut (nq.size ≤ 9) := ⟨by omega⟩
  clear n1 n2
  by_cases c1 : kd = 1
  · have f1 : (kd == 1) = true := by simpa using c1
    obtain ⟨v0, -⟩ := HW.out.bx 0 rfl 0 _ rfl
    clear c1
    go_wp2_with fail
    refine (HW.out.pick 6 (by omega)).mono ?_
    rintro e w5 ⟨y, rfl, y0, y1, hd⟩
    obtain ⟨ny, rfl⟩ := Int.eq_ofNat_of_zero_le y0
    have hny : ny ≤ 5 := by omega
    replace HW := Shut.mk (HW.out.draw hd)
    clear hd v0
    go_wp2_with fail
    refine (HW.out.text ny (by omega)).mono ?_
    rintro e w6 ⟨t, rfl, ht, hd⟩
    replace HW := Shut.mk (HW.out.draw hd)
    clear hd
    have HA1 : Shut (ADk ⟨kd, nq, t, ⟨#[]⟩⟩) := ⟨⟨HA.out, by show t.size ≤ 9; omega, by show (0 : Nat) ≤ 9; omega⟩⟩
    clear ht
    obtain ⟨u0, u0z⟩ := HW.out.bx 0 rfl 2 _ rfl
    have HZ := Shut.mk (HW.out.put 0 rfl 2 (.string t) (by simp))
    simp only [List.set_cons_zero, List.set_cons_succ] at HZ
    go_upto_region 7 with fail
    refine wp_shade (fun W' => SD w0 W' g B a len cap (bxS ab [.int .i64 kd, .string nq, .string t, .string ⟨#[]⟩] :: bxS rb [.int .i64 0, .string ⟨#[]⟩, .string ⟨#[]⟩, .string ⟨#[]⟩] :: S)) HZ.out ?_
    intro W6 hW6
    replace HW := Shut.mk hW6
    clear HZ hW6
    clear u0 u0z
    go_wp2_with fail
    refine (HW.out.pick 40 (by omega)).mono ?_
    rintro e w7 ⟨sw, rfl, s0, s1, hd⟩
    replace HW := Shut.mk (HW.out.draw hd)
    clear hd
    by_cases h0 : sw = 0
    · have e0 : (sw == 0) = true := by simpa using h0
      go_upto_region 9 with fail
      have HB := Shut.mk (HW.out.new #[.int .i64 0, .int .i64 5] 3)
      obtain ⟨lb, hlb⟩ : ∃ q, q = w7.heap.size := ⟨_, rfl⟩
      rw [← hlb] at HB
      go_wp2_with fail
      refine wpcall_shade (fun W' => SD w0 W' g B a len cap (bxS lb [.int .i64 0, .int .i64 5] :: bxS ab [.int .i64 kd, .string nq, .string t, .string ⟨#[]⟩] :: bxS rb [.int .i64 0, .string ⟨#[]⟩, .string ⟨#[]⟩, .string ⟨#[]⟩] :: S)) HB.out ?_
      rw [← hlb]
      intro w8 h8
      replace HB := Shut.mk h8
      clear h8 hlb
      refine (l01PickInt_any _ g B a len cap lb 2 (by decide) (by decide) (sd_ne HB.out) (fun j hj => by match j, hj with | 0, _ => exact ⟨_, (HB.out.bx 0 rfl 0 _ rfl).1⟩ | 1, _ => exact ⟨_, (HB.out.bx 0 rfl 1 _ rfl).1⟩) HB.out.cur).mono ?_
      rintro e w9 ⟨kz, rfl, hc5, hg5⟩
      replace HW := Shut.mk (HB.out.draw ⟨hg5, fun _ => hc5⟩).tail
      clear hc5 hg5 HB
      obtain ⟨y0, y0z⟩ := HW.out.bx 0 rfl 0 _ rfl
      have HZ := Shut.mk (HW.out.put 0 rfl 0 (.int .i64 kz) (by simp))
      simp only [List.set_cons_zero] at HZ
      go_upto_region 16 with fail
      refine wp_shade (fun W' => SD w0 W' g B a len cap (bxS ab [.int .i64 kz, .string nq, .string t, .string ⟨#[]⟩] :: bxS rb [.int .i64 0, .string ⟨#[]⟩, .string ⟨#[]⟩, .string ⟨#[]⟩] :: S)) HZ.out ?_
      intro W6 hW6
      replace HW := Shut.mk hW6
      clear HZ hW6
      have HAD : Shut (ADk ⟨kz, nq, t, ⟨#[]⟩⟩) := ⟨HA1.out⟩
      clear y0 y0z
      obtain ⟨z0, -⟩ := HW.out.bx 0 rfl 0 _ rfl
      obtain ⟨z1, -⟩ := HW.out.bx 0 rfl 1 _ rfl
      obtain ⟨z2, -⟩ := HW.out.bx 0 rfl 2 _ rfl
      obtain ⟨z3, -⟩ := HW.out.bx 0 rfl 3 _ rfl
      obtain ⟨r0, r0z⟩ := HW.out.bx 1 rfl 0 _ rfl
      obtain ⟨r1, r1z⟩ := HW.out.bx 1 rfl 1 _ rfl
      obtain ⟨r2, r2z⟩ := HW.out.bx 1 rfl 2 _ rfl
      obtain ⟨r3, r3z⟩ := HW.out.bx 1 rfl 3 _ rfl
      have HE := Shut.mk (((((HW.out.put 1 rfl 0 (.int .i64 kz) (by simp)).put 1 rfl 1 (.string nq) (by simp)).put 1 rfl 2 (.string t) (by simp)).put 1 rfl 3 (.string ⟨#[]⟩) (by simp)).tail.tail)
      go_wp2_with fail
      refine bodyPost_ret (v := .agg #[.int .i64 kz, .string nq, .string t, .string ⟨#[]⟩]) (by simp [results, Try.results36, go_sem, r0, r1, r2, r3]) rfl ?_
      exact ⟨⟨kz, nq, t, ⟨#[]⟩⟩, rfl, HAD.out, HE.out⟩
    by_cases h1 : sw = 1
    · have e0 : (sw == 0) = false := by simpa using h0
      have e1 : (sw == 1) = true := by simpa using h1
      go_upto_region 11 with fail
      have HB := Shut.mk (HW.out.new #[.string ⟨#[]⟩, .string ⟨#[49, 50, 51, 52, 53, 54, 55, 56, 57]⟩, .string ⟨#[110, 101, 119]⟩] 9)
      obtain ⟨lb, hlb⟩ : ∃ q, q = w7.heap.size := ⟨_, rfl⟩
      rw [← hlb] at HB
      go_wp2_with fail
      refine wpcall_shade (fun W' => SD w0 W' g B a len cap (bxS lb [.string ⟨#[]⟩, .string ⟨#[49, 50, 51, 52, 53, 54, 55, 56, 57]⟩, .string ⟨#[110, 101, 119]⟩] :: bxS ab [.int .i64 kd, .string nq, .string t, .string ⟨#[]⟩] :: bxS rb [.int .i64 0, .string ⟨#[]⟩, .string ⟨#[]⟩, .string ⟨#[]⟩] :: S)) HB.out ?_
      rw [← hlb]
      intro w8 h8
      replace HB := Shut.mk h8
      clear h8 hlb
      refine (l01Pick_in (fun z => z.size ≤ 9) _ g B a len cap lb 3 (by decide) (by decide) (sd_ne HB.out) (fun j hj => by match j, hj with | 0, _ => exact ⟨_, (HB.out.bx 0 rfl 0 _ rfl).1, by decide⟩ | 1, _ => exact ⟨_, (HB.out.bx 0 rfl 1 _ rfl).1, by decide⟩ | 2, _ => exact ⟨_, (HB.out.bx 0 rfl 2 _ rfl).1, by decide⟩) HB.out.cur).mono ?_
      rintro e w9 ⟨kz, rfl, hz9, hc5, hg5⟩
      replace HW := Shut.mk (HB.out.draw ⟨hg5, fun _ => hc5⟩).tail
      clear hc5 hg5 HB
      obtain ⟨y0, y0z⟩ := HW.out.bx 0 rfl 1 _ rfl
      have HZ := Shut.mk (HW.out.put 0 rfl 1 (.string kz) (by simp))
      simp only [List.set_cons_zero, List.set_cons_succ] at HZ
      go_upto_region 16 with fail
      refine wp_shade (fun W' => SD w0 W' g B a len cap (bxS ab [.int .i64 kd, .string kz, .string t, .string ⟨#[]⟩] :: bxS rb [.int .i64 0, .string ⟨#[]⟩, .string ⟨#[]⟩, .string ⟨#[]⟩] :: S)) HZ.out ?_
      intro W6 hW6
      replace HW := Shut.mk hW6
      clear HZ hW6
      have HAD : Shut (ADk ⟨kd, kz, t, ⟨#[]⟩⟩) := ⟨hz9, HA1.out.2⟩
      clear y0 y0z
      obtain ⟨z0, -⟩ := HW.out.bx 0 rfl 0 _ rfl
      obtain ⟨z1, -⟩ := HW.out.bx 0 rfl 1 _ rfl
      obtain ⟨z2, -⟩ := HW.out.bx 0 rfl 2 _ rfl
      obtain ⟨z3, -⟩ := HW.out.bx 0 rfl 3 _ rfl
      obtain ⟨r0, r0z⟩ := HW.out.bx 1 rfl 0 _ rfl
      obtain ⟨r1, r1z⟩ := HW.out.bx 1 rfl 1 _ rfl
      obtain ⟨r2, r2z⟩ := HW.out.bx 1 rfl 2 _ rfl
      obtain ⟨r3, r3z⟩ := HW.out.bx 1 rfl 3 _ rfl
      have HE := Shut.mk (((((HW.out.put 1 rfl 0 (.int .i64 kd) (by simp)).put 1 rfl 1 (.string kz) (by simp)).put 1 rfl 2 (.string t) (by simp)).put 1 rfl 3 (.string ⟨#[]⟩) (by simp)).tail.tail)
      go_wp2_with fail
      refine bodyPost_ret (v := .agg #[.int .i64 kd, .string kz, .string t, .string ⟨#[]⟩]) (by simp [results, Try.results36, go_sem, r0, r1, r2, r3]) rfl ?_
      exact ⟨⟨kd, kz, t, ⟨#[]⟩⟩, rfl, HAD.out, HE.out⟩
    by_cases h2 : sw = 2
    · have e0 : (sw == 0) = false := by simpa using h0
      have e1 : (sw == 1) = false := by simpa using h1
      have e2 : (sw == 2) = true := by simpa using h2
      obtain ⟨y0, y0z⟩ := HW.out.bx 0 rfl 3 _ rfl
      have HZ := Shut.mk (HW.out.put 0 rfl 3 (.string ⟨#[120]⟩) (by simp))
      simp only [List.set_cons_zero, List.set_cons_succ] at HZ
      go_upto_region 16 with fail
      refine wp_shade (fun W' => SD w0 W' g B a len cap (bxS ab [.int .i64 kd, .string nq, .string t, .string ⟨#[120]⟩] :: bxS rb [.int .i64 0, .string ⟨#[]⟩, .string ⟨#[]⟩, .string ⟨#[]⟩] :: S)) HZ.out ?_
      intro W6 hW6
      replace HW := Shut.mk hW6
      clear HZ hW6
      have HAD : Shut (ADk ⟨kd, nq, t, ⟨#[120]⟩⟩) := ⟨HA1.out.1, HA1.out.2.1, by show (⟨#[120]⟩ : ByteArray).size ≤ 9; decide⟩
      clear y0 y0z
      obtain ⟨z0, -⟩ := HW.out.bx 0 rfl 0 _ rfl
      obtain ⟨z1, -⟩ := HW.out.bx 0 rfl 1 _ rfl
      obtain ⟨z2, -⟩ := HW.out.bx 0 rfl 2 _ rfl
      obtain ⟨z3, -⟩ := HW.out.bx 0 rfl 3 _ rfl
      obtain ⟨r0, r0z⟩ := HW.out.bx 1 rfl 0 _ rfl
      obtain ⟨r1, r1z⟩ := HW.out.bx 1 rfl 1 _ rfl
      obtain ⟨r2, r2z⟩ := HW.out.bx 1 rfl 2 _ rfl
      obtain ⟨r3, r3z⟩ := HW.out.bx 1 rfl 3 _ rfl
      have HE := Shut.mk (((((HW.out.put 1 rfl 0 (.int .i64 kd) (by simp)).put 1 rfl 1 (.string nq) (by simp)).put 1 rfl 2 (.string t) (by simp)).put 1 rfl 3 (.string ⟨#[120]⟩) (by simp)).tail.tail)
      go_wp2_with fail
      refine bodyPost_ret (v := .agg #[.int .i64 kd, .string nq, .string t, .string ⟨#[120]⟩]) (by simp [results, Try.results36, go_sem, r0, r1, r2, r3]) rfl ?_
      exact ⟨⟨kd, nq, t, ⟨#[120]⟩⟩, rfl, HAD.out, HE.out⟩
    by_cases h3 : sw = 3
    · have e0 : (sw == 0) = false := by simpa using h0
      have e1 : (sw == 1) = false := by simpa using h1
      have e2 : (sw == 2) = false := by simpa using h2
      have e3 : (sw == 3) = true := by simpa using h3
      obtain ⟨y0, y0z⟩ := HW.out.bx 0 rfl 2 _ rfl
      have HZ := Shut.mk (HW.out.put 0 rfl 2 (.string ⟨#[120]⟩) (by simp))
      simp only [List.set_cons_zero, List.set_cons_succ] at HZ
      go_upto_region 16 with fail
      refine wp_shade (fun W' => SD w0 W' g B a len cap (bxS ab [.int .i64 kd, .string nq, .string ⟨#[120]⟩, .string ⟨#[]⟩] :: bxS rb [.int .i64 0, .string ⟨#[]⟩, .string ⟨#[]⟩, .string ⟨#[]⟩] :: S)) HZ.out ?_
      intro W6 hW6
      replace HW := Shut.mk hW6
      clear HZ hW6
      have HAD : Shut (ADk ⟨kd, nq, ⟨#[120]⟩, ⟨#[]⟩⟩) := ⟨HA1.out.1, by show (⟨#[120]⟩ : ByteArray).size ≤ 9; decide, HA1.out.2.2⟩
      clear y0 y0z
      obtain ⟨z0, -⟩ := HW.out.bx 0 rfl 0 _ rfl
      obtain ⟨z1, -⟩ := HW.out.bx 0 rfl 1 _ rfl
      obtain ⟨z2, -⟩ := HW.out.bx 0 rfl 2 _ rfl
      obtain ⟨z3, -⟩ := HW.out.bx 0 rfl 3 _ rfl
      obtain ⟨r0, r0z⟩ := HW.out.bx 1 rfl 0 _ rfl
      obtain ⟨r1, r1z⟩ := HW.out.bx 1 rfl 1 _ rfl
      obtain ⟨r2, r2z⟩ := HW.out.bx 1 rfl 2 _ rfl
      obtain ⟨r3, r3z⟩ := HW.out.bx 1 rfl 3 _ rfl
      have HE := Shut.mk (((((HW.out.put 1 rfl 0 (.int .i64 kd) (by simp)).put 1 rfl 1 (.string nq) (by simp)).put 1 rfl 2 (.string ⟨#[120]⟩) (by simp)).put 1 rfl 3 (.string ⟨#[]⟩) (by simp)).tail.tail)
      go_wp2_with fail
      refine bodyPost_ret (v := .agg #[.int .i64 kd, .string nq, .string ⟨#[120]⟩, .string ⟨#[]⟩]) (by simp [results, Try.results36, go_sem, r0, r1, r2, r3]) rfl ?_
      exact ⟨⟨kd, nq, ⟨#[120]⟩, ⟨#[]⟩⟩, rfl, HAD.out, HE.out⟩
    have e0 : (sw == 0) = false := by simpa using h0
    have e1 : (sw == 1) = false := by simpa using h1
    have e2 : (sw == 2) = false := by simpa using h2
    have e3 : (sw == 3) = false := by simpa using h3
    go_upto_region 16 with fail
    have HAD : Shut (ADk ⟨kd, nq, t, ⟨#[]⟩⟩) := ⟨HA1.out⟩
    obtain ⟨z0, -⟩ := HW.out.bx 0 rfl 0 _ rfl
    obtain ⟨z1, -⟩ := HW.out.bx 0 rfl 1 _ rfl
    obtain ⟨z2, -⟩ := HW.out.bx 0 rfl 2 _ rfl
    obtain ⟨z3, -⟩ := HW.out.bx 0 rfl 3 _ rfl
    obtain ⟨r0, r0z⟩ := HW.out.bx 1 rfl 0 _ rfl
    obtain ⟨r1, r1z⟩ := HW.out.bx 1 rfl 1 _ rfl
    obtain ⟨r2, r2z⟩ := HW.out.bx 1 rfl 2 _ rfl
    obtain ⟨r3, r3z⟩ := HW.out.bx 1 rfl 3 _ rfl
    have HE := Shut.mk (((((HW.out.put 1 rfl 0 (.int .i64 kd) (by simp)).put 1 rfl 1 (.string nq) (by simp)).put 1 rfl 2 (.string t) (by simp)).put 1 rfl 3 (.string ⟨#[]⟩) (by simp)).tail.tail)
    go_wp2_with fail
    refine bodyPost_ret (v := .agg #[.int .i64 kd, .string nq, .string t, .string ⟨#[]⟩]) (by simp [results, Try.results36, go_sem, r0, r1, r2, r3]) rfl ?_
    exact ⟨⟨kd, nq, t, ⟨#[]⟩⟩, rfl, HAD.out, HE.out⟩
  have f1 : (kd == 1) = false := by simpa using c1
  by_cases c3 : kd = 3
  · have f3 : (kd == 3) = true := by simpa using c3
    obtain ⟨v0, -⟩ := HW.out.bx 0 rfl 0 _ rfl
    clear c1 c3
    go_wp2_with fail
    refine (l03Named_any _ g B a len cap HW.out.cur).mono ?_
    rintro e w5 ⟨t, rfl, t1, t2, hc5, hg5⟩
    replace HW := Shut.mk (HW.out.draw ⟨hg5, fun _ => hc5⟩)
    clear hc5 hg5 v0
    have HA1 : Shut (ADk ⟨kd, nq, ⟨#[]⟩, t⟩) := ⟨⟨HA.out, by show (0 : Nat) ≤ 9; omega, by show t.size ≤ 9; omega⟩⟩
    clear t1 t2
    obtain ⟨u0, u0z⟩ := HW.out.bx 0 rfl 3 _ rfl
    have HZ := Shut.mk (HW.out.put 0 rfl 3 (.string t) (by simp))
    simp only [List.set_cons_zero, List.set_cons_succ] at HZ
    go_upto_region 7 with fail
    refine wp_shade (fun W' => SD w0 W' g B a len cap (bxS ab [.int .i64 kd, .string nq, .string ⟨#[]⟩, .string t] :: bxS rb [.int .i64 0, .string ⟨#[]⟩, .string ⟨#[]⟩, .string ⟨#[]⟩] :: S)) HZ.out ?_
    intro W6 hW6
    replace HW := Shut.mk hW6
    clear HZ hW6
    clear u0 u0z
    go_wp2_with fail
    refine (HW.out.pick 40 (by omega)).mono ?_
    rintro e w7 ⟨sw, rfl, s0, s1, hd⟩
    replace HW := Shut.mk (HW.out.draw hd)
    clear hd
    by_cases h0 : sw = 0
    · have e0 : (sw == 0) = true := by simpa using h0
      go_upto_region 9 with fail
      have HB := Shut.mk (HW.out.new #[.int .i64 0, .int .i64 5] 3)
      obtain ⟨lb, hlb⟩ : ∃ q, q = w7.heap.size := ⟨_, rfl⟩
      rw [← hlb] at HB
      go_wp2_with fail
      refine wpcall_shade (fun W' => SD w0 W' g B a len cap (bxS lb [.int .i64 0, .int .i64 5] :: bxS ab [.int .i64 kd, .string nq, .string ⟨#[]⟩, .string t] :: bxS rb [.int .i64 0, .string ⟨#[]⟩, .string ⟨#[]⟩, .string ⟨#[]⟩] :: S)) HB.out ?_
      rw [← hlb]
      intro w8 h8
      replace HB := Shut.mk h8
      clear h8 hlb
      refine (l01PickInt_any _ g B a len cap lb 2 (by decide) (by decide) (sd_ne HB.out) (fun j hj => by match j, hj with | 0, _ => exact ⟨_, (HB.out.bx 0 rfl 0 _ rfl).1⟩ | 1, _ => exact ⟨_, (HB.out.bx 0 rfl 1 _ rfl).1⟩) HB.out.cur).mono ?_
      rintro e w9 ⟨kz, rfl, hc5, hg5⟩
      replace HW := Shut.mk (HB.out.draw ⟨hg5, fun _ => hc5⟩).tail
      clear hc5 hg5 HB
      obtain ⟨y0, y0z⟩ := HW.out.bx 0 rfl 0 _ rfl
      have HZ := Shut.mk (HW.out.put 0 rfl 0 (.int .i64 kz) (by simp))
      simp only [List.set_cons_zero] at HZ
      go_upto_region 16 with fail
      refine wp_shade (fun W' => SD w0 W' g B a len cap (bxS ab [.int .i64 kz, .string nq, .string ⟨#[]⟩, .string t] :: bxS rb [.int .i64 0, .string ⟨#[]⟩, .string ⟨#[]⟩, .string ⟨#[]⟩] :: S)) HZ.out ?_
      intro W6 hW6
      replace HW := Shut.mk hW6
      clear HZ hW6
      have HAD : Shut (ADk ⟨kz, nq, ⟨#[]⟩, t⟩) := ⟨HA1.out⟩
      clear y0 y0z
      obtain ⟨z0, -⟩ := HW.out.bx 0 rfl 0 _ rfl
      obtain ⟨z1, -⟩ := HW.out.bx 0 rfl 1 _ rfl
      obtain ⟨z2, -⟩ := HW.out.bx 0 rfl 2 _ rfl
      obtain ⟨z3, -⟩ := HW.out.bx 0 rfl 3 _ rfl
      obtain ⟨r0, r0z⟩ := HW.out.bx 1 rfl 0 _ rfl
      obtain ⟨r1, r1z⟩ := HW.out.bx 1 rfl 1 _ rfl
      obtain ⟨r2, r2z⟩ := HW.out.bx 1 rfl 2 _ rfl
      obtain ⟨r3, r3z⟩ := HW.out.bx 1 rfl 3 _ rfl
      have HE := Shut.mk (((((HW.out.put 1 rfl 0 (.int .i64 kz) (by simp)).put 1 rfl 1 (.string nq) (by simp)).put 1 rfl 2 (.string ⟨#[]⟩) (by simp)).put 1 rfl 3 (.string t) (by simp)).tail.tail)
      go_wp2_with fail
      refine bodyPost_ret (v := .agg #[.int .i64 kz, .string nq, .string ⟨#[]⟩, .string t]) (by simp [results, Try.results36, go_sem, r0, r1, r2, r3]) rfl ?_
      exact ⟨⟨kz, nq, ⟨#[]⟩, t⟩, rfl, HAD.out, HE.out⟩
    by_cases h1 : sw = 1
    · have e0 : (sw == 0) = false := by simpa using h0
      have e1 : (sw == 1) = true := by simpa using h1
      go_upto_region 11 with fail
      have HB := Shut.mk (HW.out.new #[.string ⟨#[]⟩, .string ⟨#[49, 50, 51, 52, 53, 54, 55, 56, 57]⟩, .string ⟨#[110, 101, 119]⟩] 9)
      obtain ⟨lb, hlb⟩ : ∃ q, q = w7.heap.size := ⟨_, rfl⟩
      rw [← hlb] at HB
      go_wp2_with fail
      refine wpcall_shade (fun W' => SD w0 W' g B a len cap (bxS lb [.string ⟨#[]⟩, .string ⟨#[49, 50, 51, 52, 53, 54, 55, 56, 57]⟩, .string ⟨#[110, 101, 119]⟩] :: bxS ab [.int .i64 kd, .string nq, .string ⟨#[]⟩, .string t] :: bxS rb [.int .i64 0, .string ⟨#[]⟩, .string ⟨#[]⟩, .string ⟨#[]⟩] :: S)) HB.out ?_
      rw [← hlb]
      intro w8 h8
      replace HB := Shut.mk h8
      clear h8 hlb
      refine (l01Pick_in (fun z => z.size ≤ 9) _ g B a len cap lb 3 (by decide) (by decide) (sd_ne HB.out) (fun j hj => by match j, hj with | 0, _ => exact ⟨_, (HB.out.bx 0 rfl 0 _ rfl).1, by decide⟩ | 1, _ => exact ⟨_, (HB.out.bx 0 rfl 1 _ rfl).1, by decide⟩ | 2, _ => exact ⟨_, (HB.out.bx 0 rfl 2 _ rfl).1, by decide⟩) HB.out.cur).mono ?_
      rintro e w9 ⟨kz, rfl, hz9, hc5, hg5⟩
      replace HW := Shut.mk (HB.out.draw ⟨hg5, fun _ => hc5⟩).tail
      clear hc5 hg5 HB
      obtain ⟨y0, y0z⟩ := HW.out.bx 0 rfl 1 _ rfl
      have HZ := Shut.mk (HW.out.put 0 rfl 1 (.string kz) (by simp))
      simp only [List.set_cons_zero, List.set_cons_succ] at HZ
      go_upto_region 16 with fail
      refine wp_shade (fun W' => SD w0 W' g B a len cap (bxS ab [.int .i64 kd, .string kz, .string ⟨#[]⟩, .string t] :: bxS rb [.int .i64 0, .string ⟨#[]⟩, .string ⟨#[]⟩, .string ⟨#[]⟩] :: S)) HZ.out ?_
      intro W6 hW6
      replace HW := Shut.mk hW6
      clear HZ hW6
      have HAD : Shut (ADk ⟨kd, kz, ⟨#[]⟩, t⟩) := ⟨hz9, HA1.out.2⟩
      clear y0 y0z
      obtain ⟨z0, -⟩ := HW.out.bx 0 rfl 0 _ rfl
      obtain ⟨z1, -⟩ := HW.out.bx 0 rfl 1 _ rfl
      obtain ⟨z2, -⟩ := HW.out.bx 0 rfl 2 _ rfl
      obtain ⟨z3, -⟩ := HW.out.bx 0 rfl 3 _ rfl
      obtain ⟨r0, r0z⟩ := HW.out.bx 1 rfl 0 _ rfl
      obtain ⟨r1, r1z⟩ := HW.out.bx 1 rfl 1 _ rfl
      obtain ⟨r2, r2z⟩ := HW.out.bx 1 rfl 2 _ rfl
      obtain ⟨r3, r3z⟩ := HW.out.bx 1 rfl 3 _ rfl
      have HE := Shut.mk (((((HW.out.put 1 rfl 0 (.int .i64 kd) (by simp)).put 1 rfl 1 (.string kz) (by simp)).put 1 rfl 2 (.string ⟨#[]⟩) (by simp)).put 1 rfl 3 (.string t) (by simp)).tail.tail)
      go_wp2_with fail
      refine bodyPost_ret (v := .agg #[.int .i64 kd, .string kz, .string ⟨#[]⟩, .string t]) (by simp [results, Try.results36, go_sem, r0, r1, r2, r3]) rfl ?_
      exact ⟨⟨kd, kz, ⟨#[]⟩, t⟩, rfl, HAD.out, HE.out⟩
    by_cases h2 : sw = 2
    · have e0 : (sw == 0) = false := by simpa using h0
      have e1 : (sw == 1) = false := by simpa using h1
      have e2 : (sw == 2) = true := by simpa using h2
      obtain ⟨y0, y0z⟩ := HW.out.bx 0 rfl 3 _ rfl
      have HZ := Shut.mk (HW.out.put 0 rfl 3 (.string ⟨#[120]⟩) (by simp))
      simp only [List.set_cons_zero, List.set_cons_succ] at HZ
      go_upto_region 16 with fail
      refine wp_shade (fun W' => SD w0 W' g B a len cap (bxS ab [.int .i64 kd, .string nq, .string ⟨#[]⟩, .string ⟨#[120]⟩] :: bxS rb [.int .i64 0, .string ⟨#[]⟩, .string ⟨#[]⟩, .string ⟨#[]⟩] :: S)) HZ.out ?_
      intro W6 hW6
      replace HW := Shut.mk hW6
      clear HZ hW6
      have HAD : Shut (ADk ⟨kd, nq, ⟨#[]⟩, ⟨#[120]⟩⟩) := ⟨HA1.out.1, HA1.out.2.1, by show (⟨#[120]⟩ : ByteArray).size ≤ 9; decide⟩
      clear y0 y0z
      obtain ⟨z0, -⟩ := HW.out.bx 0 rfl 0 _ rfl
      obtain ⟨z1, -⟩ := HW.out.bx 0 rfl 1 _ rfl
      obtain ⟨z2, -⟩ := HW.out.bx 0 rfl 2 _ rfl
      obtain ⟨z3, -⟩ := HW.out.bx 0 rfl 3 _ rfl
      obtain ⟨r0, r0z⟩ := HW.out.bx 1 rfl 0 _ rfl
      obtain ⟨r1, r1z⟩ := HW.out.bx 1 rfl 1 _ rfl
      obtain ⟨r2, r2z⟩ := HW.out.bx 1 rfl 2 _ rfl
      obtain ⟨r3, r3z⟩ := HW.out.bx 1 rfl 3 _ rfl
      have HE := Shut.mk (((((HW.out.put 1 rfl 0 (.int .i64 kd) (by simp)).put 1 rfl 1 (.string nq) (by simp)).put 1 rfl 2 (.string ⟨#[]⟩) (by simp)).put 1 rfl 3 (.string ⟨#[120]⟩) (by simp)).tail.tail)
      go_wp2_with fail
      refine bodyPost_ret (v := .agg #[.int .i64 kd, .string nq, .string ⟨#[]⟩, .string ⟨#[120]⟩]) (by simp [results, Try.results36, go_sem, r0, r1, r2, r3]) rfl ?_
      exact ⟨⟨kd, nq, ⟨#[]⟩, ⟨#[120]⟩⟩, rfl, HAD.out, HE.out⟩
    by_cases h3 : sw = 3
    · have e0 : (sw == 0) = false := by simpa using h0
      have e1 : (sw == 1) = false := by simpa using h1
      have e2 : (sw == 2) = false := by simpa using h2
      have e3 : (sw == 3) = true := by simpa using h3
      obtain ⟨y0, y0z⟩ := HW.out.bx 0 rfl 2 _ rfl
      have HZ := Shut.mk (HW.out.put 0 rfl 2 (.string ⟨#[120]⟩) (by simp))
      simp only [List.set_cons_zero, List.set_cons_succ] at HZ
      go_upto_region 16 with fail
      refine wp_shade (fun W' => SD w0 W' g B a len cap (bxS ab [.int .i64 kd, .string nq, .string ⟨#[120]⟩, .string t] :: bxS rb [.int .i64 0, .string ⟨#[]⟩, .string ⟨#[]⟩, .string ⟨#[]⟩] :: S)) HZ.out ?_
      intro W6 hW6
      replace HW := Shut.mk hW6
      clear HZ hW6
      have HAD : Shut (ADk ⟨kd, nq, ⟨#[120]⟩, t⟩) := ⟨HA1.out.1, by show (⟨#[120]⟩ : ByteArray).size ≤ 9; decide, HA1.out.2.2⟩
      clear y0 y0z
      obtain ⟨z0, -⟩ := HW.out.bx 0 rfl 0 _ rfl
      obtain ⟨z1, -⟩ := HW.out.bx 0 rfl 1 _ rfl
      obtain ⟨z2, -⟩ := HW.out.bx 0 rfl 2 _ rfl
      obtain ⟨z3, -⟩ := HW.out.bx 0 rfl 3 _ rfl
      obtain ⟨r0, r0z⟩ := HW.out.bx 1 rfl 0 _ rfl
      obtain ⟨r1, r1z⟩ := HW.out.bx 1 rfl 1 _ rfl
      obtain ⟨r2, r2z⟩ := HW.out.bx 1 rfl 2 _ rfl
      obtain ⟨r3, r3z⟩ := HW.out.bx 1 rfl 3 _ rfl
      have HE := Shut.mk (((((HW.out.put 1 rfl 0 (.int .i64 kd) (by simp)).put 1 rfl 1 (.string nq) (by simp)).put 1 rfl 2 (.string ⟨#[120]⟩) (by simp)).put 1 rfl 3 (.string t) (by simp)).tail.tail)
      go_wp2_with fail
      refine bodyPost_ret (v := .agg #[.int .i64 kd, .string nq, .string ⟨#[120]⟩, .string t]) (by simp [results, Try.results36, go_sem, r0, r1, r2, r3]) rfl ?_
      exact ⟨⟨kd, nq, ⟨#[120]⟩, t⟩, rfl, HAD.out, HE.out⟩
    have e0 : (sw == 0) = false := by simpa using h0
    have e1 : (sw == 1) = false := by simpa using h1
    have e2 : (sw == 2) = false := by simpa using h2
    have e3 : (sw == 3) = false := by simpa using h3
    go_upto_region 16 with fail
    have HAD : Shut (ADk ⟨kd, nq, ⟨#[]⟩, t⟩) := ⟨HA1.out⟩
    obtain ⟨z0, -⟩ := HW.out.bx 0 rfl 0 _ rfl
    obtain ⟨z1, -⟩ := HW.out.bx 0 rfl 1 _ rfl
    obtain ⟨z2, -⟩ := HW.out.bx 0 rfl 2 _ rfl
    obtain ⟨z3, -⟩ := HW.out.bx 0 rfl 3 _ rfl
    obtain ⟨r0, r0z⟩ := HW.out.bx 1 rfl 0 _ rfl
    obtain ⟨r1, r1z⟩ := HW.out.bx 1 rfl 1 _ rfl
    obtain ⟨r2, r2z⟩ := HW.out.bx 1 rfl 2 _ rfl
    obtain ⟨r3, r3z⟩ := HW.out.bx 1 rfl 3 _ rfl
    have HE := Shut.mk (((((HW.out.put 1 rfl 0 (.int .i64 kd) (by simp)).put 1 rfl 1 (.string nq) (by simp)).put 1 rfl 2 (.string ⟨#[]⟩) (by simp)).put 1 rfl 3 (.string t) (by simp)).tail.tail)
    go_wp2_with fail
    refine bodyPost_ret (v := .agg #[.int .i64 kd, .string nq, .string ⟨#[]⟩, .string t]) (by simp [results, Try.results36, go_sem, r0, r1, r2, r3]) rfl ?_
    exact ⟨⟨kd, nq, ⟨#[]⟩, t⟩, rfl, HAD.out, HE.out⟩
  have f3 : (kd == 3) = false := by simpa using c3
  obtain ⟨v0, -⟩ := HW.out.bx 0 rfl 0 _ rfl
  clear c1 c3
  have HA1 : Shut (ADk ⟨kd, nq, ⟨#[]⟩, ⟨#[]⟩⟩) := ⟨⟨HA.out, by show (0 : Nat) ≤ 9; omega, by show (0 : Nat) ≤ 9; omega⟩⟩
  go_upto_region 7 with fail
  clear v0
  go_wp2_with fail
  refine (HW.out.pick 40 (by omega)).mono ?_
  rintro e w7 ⟨sw, rfl, s0, s1, hd⟩
  replace HW := Shut.mk (HW.out.draw hd)
  clear hd
  by_cases h0 : sw = 0
  · have e0 : (sw == 0) = true := by simpa using h0
    go_upto_region 9 with fail
    have HB := Shut.mk (HW.out.new #[.int .i64 0, .int .i64 5] 3)
    obtain ⟨lb, hlb⟩ : ∃ q, q = w7.heap.size := ⟨_, rfl⟩
    rw [← hlb] at HB
    go_wp2_with fail
    refine wpcall_shade (fun W' => SD w0 W' g B a len cap (bxS lb [.int .i64 0, .int .i64 5] :: bxS ab [.int .i64 kd, .string nq, .string ⟨#[]⟩, .string ⟨#[]⟩] :: bxS rb [.int .i64 0, .string ⟨#[]⟩, .string ⟨#[]⟩, .string ⟨#[]⟩] :: S)) HB.out ?_
    rw [← hlb]
    intro w8 h8
    replace HB := Shut.mk h8
    clear h8 hlb
    refine (l01PickInt_any _ g B a len cap lb 2 (by decide) (by decide) (sd_ne HB.out) (fun j hj => by match j, hj with | 0, _ => exact ⟨_, (HB.out.bx 0 rfl 0 _ rfl).1⟩ | 1, _ => exact ⟨_, (HB.out.bx 0 rfl 1 _ rfl).1⟩) HB.out.cur).mono ?_
    rintro e w9 ⟨kz, rfl, hc5, hg5⟩
    replace HW := Shut.mk (HB.out.draw ⟨hg5, fun _ => hc5⟩).tail
    clear hc5 hg5 HB
    obtain ⟨y0, y0z⟩ := HW.out.bx 0 rfl 0 _ rfl
    have HZ := Shut.mk (HW.out.put 0 rfl 0 (.int .i64 kz) (by simp))
    simp only [List.set_cons_zero] at HZ
    go_upto_region 16 with fail
    refine wp_shade (fun W' => SD w0 W' g B a len cap (bxS ab [.int .i64 kz, .string nq, .string ⟨#[]⟩, .string ⟨#[]⟩] :: bxS rb [.int .i64 0, .string ⟨#[]⟩, .string ⟨#[]⟩, .string ⟨#[]⟩] :: S)) HZ.out ?_
    intro W6 hW6
    replace HW := Shut.mk hW6
    clear HZ hW6
    have HAD : Shut (ADk ⟨kz, nq, ⟨#[]⟩, ⟨#[]⟩⟩) := ⟨HA1.out⟩
    clear y0 y0z
    obtain ⟨z0, -⟩ := HW.out.bx 0 rfl 0 _ rfl
    obtain ⟨z1, -⟩ := HW.out.bx 0 rfl 1 _ rfl
    obtain ⟨z2, -⟩ := HW.out.bx 0 rfl 2 _ rfl
    obtain ⟨z3, -⟩ := HW.out.bx 0 rfl 3 _ rfl
    obtain ⟨r0, r0z⟩ := HW.out.bx 1 rfl 0 _ rfl
    obtain ⟨r1, r1z⟩ := HW.out.bx 1 rfl 1 _ rfl
    obtain ⟨r2, r2z⟩ := HW.out.bx 1 rfl 2 _ rfl
    obtain ⟨r3, r3z⟩ := HW.out.bx 1 rfl 3 _ rfl
    have HE := Shut.mk (((((HW.out.put 1 rfl 0 (.int .i64 kz) (by simp)).put 1 rfl 1 (.string nq) (by simp)).put 1 rfl 2 (.string ⟨#[]⟩) (by simp)).put 1 rfl 3 (.string ⟨#[]⟩) (by simp)).tail.tail)
    go_wp2_with fail
    refine bodyPost_ret (v := .agg #[.int .i64 kz, .string nq, .string ⟨#[]⟩, .string ⟨#[]⟩]) (by simp [results, Try.results36, go_sem, r0, r1, r2, r3]) rfl ?_
    exact ⟨⟨kz, nq, ⟨#[]⟩, ⟨#[]⟩⟩, rfl, HAD.out, HE.out⟩
  by_cases h1 : sw = 1
  · have e0 : (sw == 0) = false := by simpa using h0
    have e1 : (sw == 1) = true := by simpa using h1
    go_upto_region 11 with fail
    have HB := Shut.mk (HW.out.new #[.string ⟨#[]⟩, .string ⟨#[49, 50, 51, 52, 53, 54, 55, 56, 57]⟩, .string ⟨#[110, 101, 119]⟩] 9)
    obtain ⟨lb, hlb⟩ : ∃ q, q = w7.heap.size := ⟨_, rfl⟩
    rw [← hlb] at HB
    go_wp2_with fail
    refine wpcall_shade (fun W' => SD w0 W' g B a len cap (bxS lb [.string ⟨#[]⟩, .string ⟨#[49, 50, 51, 52, 53, 54, 55, 56, 57]⟩, .string ⟨#[110, 101, 119]⟩] :: bxS ab [.int .i64 kd, .string nq, .string ⟨#[]⟩, .string ⟨#[]⟩] :: bxS rb [.int .i64 0, .string ⟨#[]⟩, .string ⟨#[]⟩, .string ⟨#[]⟩] :: S)) HB.out ?_
    rw [← hlb]
    intro w8 h8
    replace HB := Shut.mk h8
    clear h8 hlb
    refine (l01Pick_in (fun z => z.size ≤ 9) _ g B a len cap lb 3 (by decide) (by decide) (sd_ne HB.out) (fun j hj => by match j, hj with | 0, _ => exact ⟨_, (HB.out.bx 0 rfl 0 _ rfl).1, by decide⟩ | 1, _ => exact ⟨_, (HB.out.bx 0 rfl 1 _ rfl).1, by decide⟩ | 2, _ => exact ⟨_, (HB.out.bx 0 rfl 2 _ rfl).1, by decide⟩) HB.out.cur).mono ?_
    rintro e w9 ⟨kz, rfl, hz9, hc5, hg5⟩
    replace HW := Shut.mk (HB.out.draw ⟨hg5, fun _ => hc5⟩).tail
    clear hc5 hg5 HB
    obtain ⟨y0, y0z⟩ := HW.out.bx 0 rfl 1 _ rfl
    have HZ := Shut.mk (HW.out.put 0 rfl 1 (.string kz) (by simp))
    simp only [List.set_cons_zero, List.set_cons_succ] at HZ
    go_upto_region 16 with fail
    refine wp_shade (fun W' => SD w0 W' g B a len cap (bxS ab [.int .i64 kd, .string kz, .string ⟨#[]⟩, .string ⟨#[]⟩] :: bxS rb [.int .i64 0, .string ⟨#[]⟩, .string ⟨#[]⟩, .string ⟨#[]⟩] :: S)) HZ.out ?_
    intro W6 hW6
    replace HW := Shut.mk hW6
    clear HZ hW6
    have HAD : Shut (ADk ⟨kd, kz, ⟨#[]⟩, ⟨#[]⟩⟩) := ⟨hz9, HA1.out.2⟩
    clear y0 y0z
    obtain ⟨z0, -⟩ := HW.out.bx 0 rfl 0 _ rfl
    obtain ⟨z1, -⟩ := HW.out.bx 0 rfl 1 _ rfl
    obtain ⟨z2, -⟩ := HW.out.bx 0 rfl 2 _ rfl
    obtain ⟨z3, -⟩ := HW.out.bx 0 rfl 3 _ rfl
    obtain ⟨r0, r0z⟩ := HW.out.bx 1 rfl 0 _ rfl
    obtain ⟨r1, r1z⟩ := HW.out.bx 1 rfl 1 _ rfl
    obtain ⟨r2, r2z⟩ := HW.out.bx 1 rfl 2 _ rfl
    obtain ⟨r3, r3z⟩ := HW.out.bx 1 rfl 3 _ rfl
    have HE := Shut.mk (((((HW.out.put 1 rfl 0 (.int .i64 kd) (by simp)).put 1 rfl 1 (.string kz) (by simp)).put 1 rfl 2 (.string ⟨#[]⟩) (by simp)).put 1 rfl 3 (.string ⟨#[]⟩) (by simp)).tail.tail)
    go_wp2_with fail
    refine bodyPost_ret (v := .agg #[.int .i64 kd, .string kz, .string ⟨#[]⟩, .string ⟨#[]⟩]) (by simp [results, Try.results36, go_sem, r0, r1, r2, r3]) rfl ?_
    exact ⟨⟨kd, kz, ⟨#[]⟩, ⟨#[]⟩⟩, rfl, HAD.out, HE.out⟩
  by_cases h2 : sw = 2
  · have e0 : (sw == 0) = false := by simpa using h0
    have e1 : (sw == 1) = false := by simpa using h1
    have e2 : (sw == 2) = true := by simpa using h2
    obtain ⟨y0, y0z⟩ := HW.out.bx 0 rfl 3 _ rfl
    have HZ := Shut.mk (HW.out.put 0 rfl 3 (.string ⟨#[120]⟩) (by simp))
    simp only [List.set_cons_zero, List.set_cons_succ] at HZ
    go_upto_region 16 with fail
    refine wp_shade (fun W' => SD w0 W' g B a len cap (bxS ab [.int .i64 kd, .string nq, .string ⟨#[]⟩, .string ⟨#[120]⟩] :: bxS rb [.int .i64 0, .string ⟨#[]⟩, .string ⟨#[]⟩, .string ⟨#[]⟩] :: S)) HZ.out ?_
    intro W6 hW6
    replace HW := Shut.mk hW6
    clear HZ hW6
    have HAD : Shut (ADk ⟨kd, nq, ⟨#[]⟩, ⟨#[120]⟩⟩) := ⟨HA1.out.1, HA1.out.2.1, by show (⟨#[120]⟩ : ByteArray).size ≤ 9; decide⟩
    clear y0 y0z
    obtain ⟨z0, -⟩ := HW.out.bx 0 rfl 0 _ rfl
    obtain ⟨z1, -⟩ := HW.out.bx 0 rfl 1 _ rfl
    obtain ⟨z2, -⟩ := HW.out.bx 0 rfl 2 _ rfl
    obtain ⟨z3, -⟩ := HW.out.bx 0 rfl 3 _ rfl
    obtain ⟨r0, r0z⟩ := HW.out.bx 1 rfl 0 _ rfl
    obtain ⟨r1, r1z⟩ := HW.out.bx 1 rfl 1 _ rfl
    obtain ⟨r2, r2z⟩ := HW.out.bx 1 rfl 2 _ rfl
    obtain ⟨r3, r3z⟩ := HW.out.bx 1 rfl 3 _ rfl
    have HE := Shut.mk (((((HW.out.put 1 rfl 0 (.int .i64 kd) (by simp)).put 1 rfl 1 (.string nq) (by simp)).put 1 rfl 2 (.string ⟨#[]⟩) (by simp)).put 1 rfl 3 (.string ⟨#[120]⟩) (by simp)).tail.tail)
    go_wp2_with fail
    refine bodyPost_ret (v := .agg #[.int .i64 kd, .string nq, .string ⟨#[]⟩, .string ⟨#[120]⟩]) (by simp [results, Try.results36, go_sem, r0, r1, r2, r3]) rfl ?_
    exact ⟨⟨kd, nq, ⟨#[]⟩, ⟨#[120]⟩⟩, rfl, HAD.out, HE.out⟩
  by_cases h3 : sw = 3
  · have e0 : (sw == 0) = false := by simpa using h0
    have e1 : (sw == 1) = false := by simpa using h1
    have e2 : (sw == 2) = false := by simpa using h2
    have e3 : (sw == 3) = true := by simpa using h3
    obtain ⟨y0, y0z⟩ := HW.out.bx 0 rfl 2 _ rfl
    have HZ := Shut.mk (HW.out.put 0 rfl 2 (.string ⟨#[120]⟩) (by simp))
    simp only [List.set_cons_zero, List.set_cons_succ] at HZ
    go_upto_region 16 with fail
    refine wp_shade (fun W' => SD w0 W' g B a len cap (bxS ab [.int .i64 kd, .string nq, .string ⟨#[120]⟩, .string ⟨#[]⟩] :: bxS rb [.int .i64 0, .string ⟨#[]⟩, .string ⟨#[]⟩, .string ⟨#[]⟩] :: S)) HZ.out ?_
    intro W6 hW6
    replace HW := Shut.mk hW6
    clear HZ hW6
    have HAD : Shut (ADk ⟨kd, nq, ⟨#[120]⟩, ⟨#[]⟩⟩) := ⟨HA1.out.1, by show (⟨#[120]⟩ : ByteArray).size ≤ 9; decide, HA1.out.2.2⟩
    clear y0 y0z
    obtain ⟨z0, -⟩ := HW.out.bx 0 rfl 0 _ rfl
    obtain ⟨z1, -⟩ := HW.out.bx 0 rfl 1 _ rfl
    obtain ⟨z2, -⟩ := HW.out.bx 0 rfl 2 _ rfl
    obtain ⟨z3, -⟩ := HW.out.bx 0 rfl 3 _ rfl
    obtain ⟨r0, r0z⟩ := HW.out.bx 1 rfl 0 _ rfl
    obtain ⟨r1, r1z⟩ := HW.out.bx 1 rfl 1 _ rfl
    obtain ⟨r2, r2z⟩ := HW.out.bx 1 rfl 2 _ rfl
    obtain ⟨r3, r3z⟩ := HW.out.bx 1 rfl 3 _ rfl
    have HE := Shut.mk (((((HW.out.put 1 rfl 0 (.int .i64 kd) (by simp)).put 1 rfl 1 (.string nq) (by simp)).put 1 rfl 2 (.string ⟨#[120]⟩) (by simp)).put 1 rfl 3 (.string ⟨#[]⟩) (by simp)).tail.tail)
    go_wp2_with fail
    refine bodyPost_ret (v := .agg #[.int .i64 kd, .string nq, .string ⟨#[120]⟩, .string ⟨#[]⟩]) (by simp [results, Try.results36, go_sem, r0, r1, r2, r3]) rfl ?_
    exact ⟨⟨kd, nq, ⟨#[120]⟩, ⟨#[]⟩⟩, rfl, HAD.out, HE.out⟩
  have e0 : (sw == 0) = false := by simpa using h0
  have e1 : (sw == 1) = false := by simpa using h1
  have e2 : (sw == 2) = false := by simpa using h2
  have e3 : (sw == 3) = false := by simpa using h3
  go_upto_region 16 with fail
  have HAD : Shut (ADk ⟨kd, nq, ⟨#[]⟩, ⟨#[]⟩⟩) := ⟨HA1.out⟩
  obtain ⟨z0, -⟩ := HW.out.bx 0 rfl 0 _ rfl
  obtain ⟨z1, -⟩ := HW.out.bx 0 rfl 1 _ rfl
  obtain ⟨z2, -⟩ := HW.out.bx 0 rfl 2 _ rfl
  obtain ⟨z3, -⟩ := HW.out.bx 0 rfl 3 _ rfl
  obtain ⟨r0, r0z⟩ := HW.out.bx 1 rfl 0 _ rfl
  obtain ⟨r1, r1z⟩ := HW.out.bx 1 rfl 1 _ rfl
  obtain ⟨r2, r2z⟩ := HW.out.bx 1 rfl 2 _ rfl
  obtain ⟨r3, r3z⟩ := HW.out.bx 1 rfl 3 _ rfl
  have HE := Shut.mk (((((HW.out.put 1 rfl 0 (.int .i64 kd) (by simp)).put 1 rfl 1 (.string nq) (by simp)).put 1 rfl 2 (.string ⟨#[]⟩) (by simp)).put 1 rfl 3 (.string ⟨#[]⟩) (by simp)).tail.tail)
  go_wp2_with fail
  refine bodyPost_ret (v := .agg #[.int .i64 kd, .string nq, .string ⟨#[]⟩, .string ⟨#[]⟩]) (by simp [results, Try.results36, go_sem, r0, r1, r2, r3]) rfl ?_
  exact ⟨⟨kd, nq, ⟨#[]⟩, ⟨#[]⟩⟩, rfl, HAD.out, HE.out⟩
end Go.Proofs.Ytplcdcfhfaghiaa
/- DrPl: The model's draws of a place and of what is left. -/
namespace Go.Proofs.Ytplcdcfhfaghiaa
set_option maxRecDepth 100000
open Go.RowKit BigFrame
attribute [local go_sem ↓] Go.wp_at_zero Go.wp_at_succ

def In64 (y : Int) : Prop := -9223372036854775808 ≤ y ∧ y ≤ 9223372036854775807
def PlaceDrawn (w0 : World) (g B : Nat) (a : Option Addr) (len cap : Nat) (S : List Str) (e : Ending) (w' : World) : Prop :=
  ∃ y : Int, e = .returned (.int .i64 y) ∧ In64 y ∧ SD w0 w' g B a len cap S
set_option maxRecDepth 100000 in
set_option maxHeartbeats 2000000 in
theorem l01Place_any {w0 W : World} {g B len cap : Nat} {a : Option Addr} {S : List Str} (n : Int) (n0 : 0 ≤ n) (n1 : n ≤ 1000000) (h : SD w0 W g B a len cap S) :
    Calls Try.prog 16 #[.pointer (some ⟨g, 0, none⟩), .int .i64 n] W fun e W' => PlaceDrawn w0 g B a len cap S e W' := by
  have HW := Shut.mk h
  clear h
  have hwn : IntKind.i64.wrap (n + 1) = n + 1 := IntWalk.i64_in _ ⟨by omega, by omega⟩
  have i0 : In64 n := ⟨by omega, by omega⟩
  have i1 : In64 (n + 1) := ⟨by omega, by omega⟩
  go_enter Try.func16, Try.ntmps16
  go_wp2_with fail
  refine (HW.out.once 15 (by omega)).mono ?_
  rintro e w2 ⟨y, rfl, hd⟩
  replace HW := Shut.mk (HW.out.draw hd)
  clear hd
  cases y with
  | true =>
    go_upto_region 2 with fail
    have HB := Shut.mk (HW.out.new #[.int .i64 (-1), .int .i64 n, .int .i64 (n + 1), .int .i64 9223372036854775807, .int .i64 (-9223372036854775808)] 3)
    obtain ⟨lb, hlb⟩ : ∃ q, q = w2.heap.size := ⟨_, rfl⟩
    rw [← hlb] at HB
    go_wp2_with fail
    refine wpcall_shade (fun W' => SD w0 W' g B a len cap (bxS lb [.int .i64 (-1), .int .i64 n, .int .i64 (n + 1), .int .i64 9223372036854775807, .int .i64 (-9223372036854775808)] :: S)) HB.out ?_
    rw [← hlb]
    intro w3 h3
    replace HB := Shut.mk h3
    clear h3 hlb
    refine (l01PickInt_in In64 _ g B a len cap lb 5 (by decide) (by decide) (sd_ne HB.out) (fun j hj => by match j, hj with | 0, _ => exact ⟨_, (HB.out.bx 0 rfl 0 _ rfl).1, ⟨by decide, by decide⟩⟩ | 1, _ => exact ⟨_, (HB.out.bx 0 rfl 1 _ rfl).1, i0⟩ | 2, _ => exact ⟨_, (HB.out.bx 0 rfl 2 _ rfl).1, i1⟩ | 3, _ => exact ⟨_, (HB.out.bx 0 rfl 3 _ rfl).1, ⟨by decide, by decide⟩⟩ | 4, _ => exact ⟨_, (HB.out.bx 0 rfl 4 _ rfl).1, ⟨by decide, by decide⟩⟩) HB.out.cur).mono ?_
    rintro e w4 ⟨y, rfl, hy, hc, hg⟩
    replace HW := Shut.mk (HB.out.draw ⟨hg, fun _ => hc⟩).tail
    have HY := Shut.mk hy
    clear hc hg HB hy
    go_wp2_with fail
    go_ret
    exact ⟨y, rfl, HY.out, HW.out⟩
  | false =>
    go_wp2_with fail
    refine (HW.out.pick n (by omega)).mono ?_
    rintro e w3 ⟨y, rfl, y0, y1, hd⟩
    have HY : Shut (In64 y) := ⟨⟨by omega, by omega⟩⟩
    replace HW := Shut.mk (HW.out.draw hd)
    clear hd y0 y1
    go_wp2_with fail
    go_ret
    exact ⟨y, rfl, HY.out, HW.out⟩
/-- What is left, as it is drawn. -/
def LeftDrawn (w0 : World) (g B : Nat) (a : Option Addr) (len cap : Nat) (S : List Str) (e : Ending) (w' : World) : Prop :=
  ∃ (ks : List Int) (b : Option Addr) (c : Nat), e = .returned (.slice b ks.length c) ∧ ks.length ≤ 6 ∧ (∀ k ∈ ks, In64 k) ∧ SO w0 w' g B a len cap S 3 1 (.slice b ks.length c) ks.length (ics ks)
theorem so_nil {w0 W : World} {g B len cap : Nat} {a : Option Addr} {S : List Str} (h : SD w0 W g B a len cap S) (ty sz : Nat) : SO w0 (W.alloc (.cells #[] ty)) g B a len cap S ty sz (.slice (some ⟨W.heap.size, 0, none⟩) 0 0) 0 [] :=
  ⟨OwS.new h.sl, h.cur.below ((Below.refl _ _).alloc (Nat.le_refl _) _), h.far, fun e => by
    have := h.cur.2.1
    have e2 : W.heap.size = g := Option.some.inj (show some W.heap.size = some g from e)
    omega, h.hg, h.hB⟩
set_option maxRecDepth 100000 in
set_option maxHeartbeats 4000000 in
theorem l03Left_any {w0 W : World} {g B len cap : Nat} {a : Option Addr} {S : List Str} (h : SD w0 W g B a len cap S) :
    Calls Try.prog 17 #[.pointer (some ⟨g, 0, none⟩)] W fun e W' => LeftDrawn w0 g B a len cap S e W' := by
  obtain ⟨i0, hin, hz0, hz1, hz2⟩ := info_parts infoIntG
  have H0 := Shut.mk (so_nil h 3 1)
  clear h
  go_enter Try.func17, Try.ntmps17
  go_wp2_with fail
  go_loopw [3, 4] (fun v i9 wr => ∃ (ks : List Int) (b : Option Addr) (n c : Nat), v = .slice b n c ∧ i9 = .int .i64 (n : Int) ∧ n ≤ 6 ∧ Shut (n = ks.length) ∧ Shut (∀ k ∈ ks, In64 k) ∧ Shut (SO w0 wr g B a len cap S 3 1 (.slice b n c) n (ics ks))) (fun _ i9 _ => 6 - (intOf i9).toNat)
  case atStart => exact ⟨[], _, 0, 0, rfl, rfl, by omega, ⟨rfl⟩, ⟨fun k hk => by cases hk⟩, ⟨H0.out⟩⟩
  case round =>
    clear H0
    obtain ⟨ks, b, n, c, rfl, rfl, hn6, HN, HK, HW⟩ := hrel
    go_wp2_with fail
    refine (HW.out.sd.pick 6 (by omega)).mono ?_
    rintro e w2 ⟨y, rfl, y0, y1, hd⟩
    replace HW := Shut.mk (HW.out.draw hd)
    clear hd
    by_cases hlt : (n : Int) < y
    · have hn5 : n < 6 := by omega
      have HB := Shut.mk (HW.out.box #[.int .i64 0, .int .i64 1, .int .i64 2, .int .i64 3, .int .i64 5, .int .i64 9, .int .i64 40, .int .i64 200, .int .i64 (-1), .int .i64 9223372036854775807] 3)
      obtain ⟨lb, hlb⟩ : ∃ q, q = w2.heap.size := ⟨_, rfl⟩
      rw [← hlb] at HB
      go_wp2_with fail
      refine wpcall_shade (fun W' => SO w0 W' g B a len cap (bxS lb [.int .i64 0, .int .i64 1, .int .i64 2, .int .i64 3, .int .i64 5, .int .i64 9, .int .i64 40, .int .i64 200, .int .i64 (-1), .int .i64 9223372036854775807] :: S) 3 1 (.slice b n c) n (ics ks)) HB.out ?_
      rw [← hlb]
      intro w3 h3
      replace HB := Shut.mk h3
      clear h3 hlb HW
      refine (l01PickInt_in In64 _ g B a len cap lb 10 (by decide) (by decide) (so_ne HB.out) (fun j hj => by match j, hj with | 0, _ => exact ⟨_, (HB.out.bx 0 rfl 0 _ rfl).1, ⟨by decide, by decide⟩⟩ | 1, _ => exact ⟨_, (HB.out.bx 0 rfl 1 _ rfl).1, ⟨by decide, by decide⟩⟩ | 2, _ => exact ⟨_, (HB.out.bx 0 rfl 2 _ rfl).1, ⟨by decide, by decide⟩⟩ | 3, _ => exact ⟨_, (HB.out.bx 0 rfl 3 _ rfl).1, ⟨by decide, by decide⟩⟩ | 4, _ => exact ⟨_, (HB.out.bx 0 rfl 4 _ rfl).1, ⟨by decide, by decide⟩⟩ | 5, _ => exact ⟨_, (HB.out.bx 0 rfl 5 _ rfl).1, ⟨by decide, by decide⟩⟩ | 6, _ => exact ⟨_, (HB.out.bx 0 rfl 6 _ rfl).1, ⟨by decide, by decide⟩⟩ | 7, _ => exact ⟨_, (HB.out.bx 0 rfl 7 _ rfl).1, ⟨by decide, by decide⟩⟩ | 8, _ => exact ⟨_, (HB.out.bx 0 rfl 8 _ rfl).1, ⟨by decide, by decide⟩⟩ | 9, _ => exact ⟨_, (HB.out.bx 0 rfl 9 _ rfl).1, ⟨by decide, by decide⟩⟩) HB.out.cur).mono ?_
      rintro e w4 ⟨y9, rfl, hy9, hc, hg⟩
      have HW := Shut.mk (HB.out.draw ⟨hg, fun _ => hc⟩).tail
      have HY := Shut.mk hy9
      clear hc hg HB hy9
      have hown := HW.out.ow.own
      have hsz : w0.heap.size ≤ w4.heap.size := HW.out.ow.sl.bel.size
      go_wp2_with (at_builtin; refine wpList_append_own_at _ rfl _ _ 28 rfl w0.heap.size 3 i0 (.int .i64 0) 1 8 Try.underlying28 hin hz0 hz1 hz2 rfl (by decide) _ _ _ rfl (hown.alloc _) ⟨w4.heap.size, 0, none⟩ 1 1 [.int .i64 y9] rfl rfl (cell_one_new _ _ _) ?c2 ?c3 ?c4 ?c5 ?_)
      case c2 => simp [Value.oneCell']
      case c3 => unfold maxLen; omega
      case c4 => omega
      case c5 => first | omega | (simp; omega)
      intro v9 w9 ho hg _ hat
      obtain ⟨b9, c9, rfl⟩ := own_row_slice ho
      have HS : Shut (SO w0 w9 g B a len cap S 3 1 (.slice b9 (n + 1) c9) (n + 1) (ics (ks ++ [y9]))) := ⟨HW.out.more ((Below.refl _ _).alloc (Nat.le_refl _) (.cells #[.int .i64 y9] 3)) (by rw [show ics (ks ++ [y9]) = ics ks ++ [.int .i64 y9] by simp [ics]]; exact ho) hg (by rw [World.size_alloc]; exact hat)⟩
      clear ho hg hat hown hsz HW
      go_wp2_with fail
      go_roundw
      case rel => exact ⟨ks ++ [y9], b9, n + 1, c9, rfl, by go_num, by omega, ⟨by rw [List.length_append, ← HN.out]; rfl⟩, ⟨fun k hk => by rcases List.mem_append.1 hk with q | q; exact HK.out k q; rw [List.mem_singleton.1 q]; exact HY.out⟩, HS⟩
      case measure => simp [intOf]; omega
    · go_wp2_with fail
      have HE := Shut.mk HW.out
      go_ret
      exact ⟨ks, b, c, by rw [← HN.out]; rfl, by rw [← HN.out]; exact hn6, HK.out, by rw [← HN.out]; exact HE.out⟩
end Go.Proofs.Ytplcdcfhfaghiaa
/- SpA: The model's walk: an act. -/
namespace Go.Proofs.Ytplcdcfhfaghiaa
set_option maxRecDepth 100000
open Go.RowKit
attribute [local go_sem ↓] Go.wp_at_zero Go.wp_at_succ

theorem fileOf_at {fs : List FM} {n : ByteArray} {k : Nat} (hk : k < fs.length) (h1 : (fs.getD k default).name = n) (h2 : ∀ j, j < k → (fs.getD j default).name ≠ n) : fileOf fs n = some (fs.getD k default) := by
  unfold fileOf
  rw [getD_atF fs k hk] at *
  rw [List.find?_eq_some_iff_getElem]
  refine ⟨by simpa using h1, k, hk, rfl, fun j hj => ?_⟩
  have := h2 j hj
  rw [getD_atF fs j (by omega)] at this
  simpa using this
theorem fileOf_not {fs : List FM} {n : ByteArray} (h : ∀ f ∈ fs, f.name ≠ n) : fileOf fs n = none := by
  unfold fileOf
  rw [List.find?_eq_none]
  intro f hf
  simpa using h f hf
theorem DOk.fit {fs : List FM} (h : DOk fs) : FFit fs := by
  refine ⟨by have := h.1; omega, fun f hf => ?_⟩
  have := h.ok f hf
  have h1 := this.1.2
  have h2 := this.2.1
  have h3 := this.2.2.1
  have h4 := this.2.2.2
  exact ⟨by omega, by omega, by omega, by omega⟩
theorem FFit.put {fs : List FM} (h : DOk fs) (f : FM) (h1 : f.name.size ≤ 9223372036854775807) (h2 : f.text.size ≤ 9223372036854775807) (h3 : -9223372036854775808 ≤ f.kept ∧ f.kept ≤ 9223372036854775807) : FFit (putF f fs) ∧ (putF f fs).length ≤ 31 := by
  have hl : (putF f fs).length ≤ 31 := by rw [put_len h.up]; have := without_len f.name fs; have := h.1; omega
  refine ⟨⟨by omega, fun g hg => ?_⟩, hl⟩
  rcases mem_putF.1 hg with rfl | ⟨hg, _⟩
  · exact ⟨h1, h2, h3⟩
  · exact h.fit.2 g hg
/-- Cells of a disk's box, of an act's name, of a file. -/
def S5 (w : World) (p q g : Nat) (v : Value) (n : ByteArray) (f : FM) : Prop := w.cell? ⟨p, 0, none⟩ = some v ∧ w.cell? ⟨q, 1, none⟩ = some (.string n) ∧ w.cell? ⟨g, 0, none⟩ = some (.string f.name) ∧ w.cell? ⟨g, 1, none⟩ = some (.string f.text) ∧ w.cell? ⟨g, 2, none⟩ = some (.int .i64 f.kept)
theorem S5.below {w w' : World} {p q g : Nat} {v : Value} {n : ByteArray} {f : FM} (h : S5 w p q g v n f) (hb : Below w.heap.size w w') : S5 w' p q g v n f :=
  ⟨(hb.cell (p := ⟨p, 0, none⟩) (cell_lt h.1)).trans h.1, (hb.cell (p := ⟨q, 1, none⟩) (cell_lt h.2.1)).trans h.2.1, (hb.cell (p := ⟨g, 0, none⟩) (cell_lt h.2.2.1)).trans h.2.2.1, (hb.cell (p := ⟨g, 1, none⟩) (cell_lt h.2.2.2.1)).trans h.2.2.2.1, (hb.cell (p := ⟨g, 2, none⟩) (cell_lt h.2.2.2.2)).trans h.2.2.2.2⟩
theorem S5.set {w : World} {p q g : Nat} {v : Value} {n : ByteArray} {f : FM} {a : Addr} (h : S5 w p q g v n f) (u : Value) (h1 : a.block ≠ p) (h2 : a.block ≠ q) (h3 : a.block ≠ g) : S5 (w.setCell a u) p q g v n f := by
  have oth : ∀ c : Addr, a.block ≠ c.block → (w.setCell a u).cell? c = w.cell? c := fun c hc => World.cell?_of_block (Below.heap_setCell w a u c.block (fun e => hc e.symm))
  exact ⟨(oth _ h1).trans h.1, (oth _ h2).trans h.2.1, (oth _ h3).trans h.2.2.1, (oth _ h3).trans h.2.2.2.1, (oth _ h3).trans h.2.2.2.2⟩
theorem outA_none {fs : List FM} {x : AM} (h : x.kind ≠ 1) (hf : fileOf fs x.name = none) : outA fs x = none := by
  unfold outA
  rw [if_neg h, hf]
end Go.Proofs.Ytplcdcfhfaghiaa
/- SpB: The model's walk: an act that adds. -/
namespace Go.Proofs.Ytplcdcfhfaghiaa
set_option maxRecDepth 100000
open Go.RowKit
attribute [local go_sem ↓] Go.wp_at_zero Go.wp_at_succ

set_option maxHeartbeats 2000000 in
set_option maxRecDepth 100000 in
theorem specDoAct_add (a : Option Addr) (fs : List FM) (x : AM) (cap : Nat) (w : World) (hr : FRow w a fs) (hf : FFit fs) (hl : fs.length ≤ 1048576) (hn : x.name.size ≤ 9223372036854775807) (ht : x.text.size ≤ 1048576) (ho : x.dst.size ≤ 9223372036854775807) (hx : x.kind = 1) :
    Calls Try.prog 23 #[.agg #[.slice a fs.length cap], av x] w fun e w' => DiskPost ((doA fs x).getD []) (.bool (doA fs x).isSome) w e w' := by
  obtain ⟨k, n, t, o⟩ := x
  simp only at hn ht ho hx
  subst hx
  have HR : Hid (FRow w a fs) := hr
  have HF : Hid (FFit fs) := hf
  have m0 : Mem w w [] [] := ⟨by simp, by simp, Below.refl _ _⟩
  have m1 := ((m0.box #[.slice a fs.length cap] 26).box #[.int .i64 1, .string n, .string t, .string o] 37).box #[.slice none 0 0] 26
  simp only [World.size_alloc] at m1
  have M0 : Shut _ := ⟨m1⟩
  generalize hrr : doA fs ⟨1, n, t, o⟩ = rr
  have HRR : Hid (doA fs ⟨1, n, t, o⟩ = rr) := hrr
  generalize hD : dOkB fs = D
  have HD : Hid (dOkB fs = D) := hD
  clear hr hf m0 m1 hrr hD
  go_enter Try.func23, Try.ntmps23
  go_wp2_with fail
  refine (specDiskOk a fs cap _ (HR.out.stays M0.out.low) HF.out hl).mono ?_
  rw [HD.out]
  rintro e w1 ⟨rfl, hb1⟩
  have M1 : Shut (Mem w w1 [(w.heap.size + 1 + 1, [.slice none 0 0]), (w.heap.size + 1, [.int .i64 1, .string n, .string t, .string o]), (w.heap.size, [.slice a fs.length cap])] []) := ⟨M0.out.below hb1⟩
  have HY : Shut (WCells w1 (w.heap.size + 1 + 1) [.slice none 0 0]) := ⟨M1.out.cells _ (List.mem_cons_self ..)⟩
  have HB : Hid (Below w.heap.size w w1) := M1.out.low
  have hs1 : w.heap.size + 1 + 1 < w1.heap.size := HY.out.1
  have ha1 := M1.out.cells _ (List.mem_cons_of_mem _ (List.mem_cons_self ..))
  obtain ⟨a0, _⟩ := ha1.2 0 _ rfl
  obtain ⟨a1, _⟩ := ha1.2 1 _ rfl
  obtain ⟨a2, _⟩ := ha1.2 2 _ rfl
  obtain ⟨a3, _⟩ := ha1.2 3 _ rfl
  have x1 := M1.out.cell2
  clear hb1 M0 ha1
  cases D with
  | false =>
    have HE : Hid (rr = none) := HRR.out.symm.trans (by unfold doA; rw [if_neg (fun hc => by have := HD.out; rw [dOkB_yes hc.1] at this; cases this)])
    clear M1 x1
    obtain ⟨yc, yf⟩ := HY.out.2 0 _ rfl
    go_wp2_with fail
    refine bodyPost_ret (v := .tuple #[.agg #[.slice none 0 0], .bool false]) (by simp [results, Try.results23, go_sem, yc]) rfl ?_
    rw [HE.out]
    exact ⟨none, 0, rfl, .inl ⟨rfl, rfl⟩, Nat.le_refl _, HB.out.setCell (by simp; omega) _⟩
  | true =>
    have HOK : Hid (DOk fs) := by
      by_cases h : DOk fs
      · exact h
      · have := HD.out; rw [dOkB_no h] at this; cases this
    go_wp2_with fail
    generalize hnb : decide (1 ≤ n.size ∧ n.size ≤ 8) = nb
    refine (l03Name_is n _ nb hnb).mono ?_
    intro e w1' hw1
    obtain ⟨rfl, hww⟩ := hw1
    rw [hww]
    clear hww w1'
    cases nb with
    | false =>
      have HE : Hid (rr = none) := HRR.out.symm.trans (doA_no fun o' ha _ => absurd ha.1 (of_decide_eq_false hnb))
      clear M1 x1 hnb
      obtain ⟨yc, yf⟩ := HY.out.2 0 _ rfl
      go_wp2_with fail
      refine bodyPost_ret (v := .tuple #[.agg #[.slice none 0 0], .bool false]) (by simp [results, Try.results23, go_sem, yc]) rfl ?_
      rw [HE.out]
      exact ⟨none, 0, rfl, .inl ⟨rfl, rfl⟩, Nat.le_refl _, HB.out.setCell (by simp; omega) _⟩
    | true =>
      have HNB : Hid (1 ≤ n.size ∧ n.size ≤ 8) := (of_decide_eq_true hnb : 1 ≤ n.size ∧ n.size ≤ 8)
      clear hnb
      by_cases ho0 : o = ⟨#[]⟩
      · subst ho0
        have HAI : Hid (ActIs ⟨1, n, t, ⟨#[]⟩⟩) := (⟨HNB.out, fun _ => rfl, fun h => absurd rfl h⟩ : ActIs ⟨1, n, t, ⟨#[]⟩⟩)
        go_wp2_with fail
        refine (l03At_any a fs cap n _ (HR.out.stays HB.out) hl).mono ?_
        rintro e w2 ⟨r, rfl, hat, hb2⟩
        have M2 : Shut (Mem w w2 [(w.heap.size + 1 + 1, [.slice none 0 0]), (w.heap.size + 1, [.int .i64 1, .string n, .string t, .string ⟨#[]⟩]), (w.heap.size, [.slice a fs.length cap])] []) := ⟨M1.out.below hb2⟩
        have HY2 : Shut (WCells w2 (w.heap.size + 1 + 1) [.slice none 0 0]) := ⟨M2.out.cells _ (List.mem_cons_self ..)⟩
        have HB2 : Hid (Below w.heap.size w w2) := M2.out.low
        have hs2 : w.heap.size + 1 + 1 < w2.heap.size := HY2.out.1
        have hsa : w.heap.size + 1 < w2.heap.size := by omega
        have hsd : w.heap.size < w2.heap.size := by omega
        have ha2 := M2.out.cells _ (List.mem_cons_of_mem _ (List.mem_cons_self ..))
        clear a0 a1 a2 a3 x1
        obtain ⟨a0, _⟩ := ha2.2 0 _ rfl
        obtain ⟨a1, _⟩ := ha2.2 1 _ rfl
        obtain ⟨a2, _⟩ := ha2.2 2 _ rfl
        obtain ⟨a3, _⟩ := ha2.2 3 _ rfl
        have x2 := M2.out.cell2
        clear hb2 ha2 M1 M2 HY HB
        rcases hat with ⟨rfl, hno⟩ | ⟨j, rfl, hj, h1, h2⟩
        · have HFN : Hid (fileOf fs n = none) := fileOf_not hno
          clear hno
          have HOA : Hid (outA fs ⟨1, n, t, ⟨#[]⟩⟩ = some (putF ⟨n, t, 0⟩ fs)) := (by unfold outA; rw [if_pos rfl]; simp only [HFN.out]; show some (putF ⟨n, ⟨#[]⟩ ++ t, 0⟩ fs) = _; rw [empty_app] : outA fs ⟨1, n, t, ⟨#[]⟩⟩ = some (putF ⟨n, t, 0⟩ fs))
          have hpp := FFit.put HOK.out ⟨n, t, 0⟩ hn (by show t.size ≤ _; omega) ⟨(by decide : (-9223372036854775808 : Int) ≤ 0), (by decide : (0 : Int) ≤ 9223372036854775807)⟩
          have HFO : Hid (FFit (putF ⟨n, t, 0⟩ fs)) := hpp.1
          have hlo : (putF ⟨n, t, 0⟩ fs).length ≤ 1048576 := by have := hpp.2; omega
          have hea := empty_app t
          clear hpp
          have HB4 : Hid (Below w.heap.size w ((w2.alloc (.cells #[.string n, .string t, .int .i64 0] 55)).alloc (.cells #[.slice none 0 0] 26))) := (HB2.out.alloc HB2.out.size _).alloc (by have := HB2.out.size; simp; omega) _
          go_wp2_with fail
          refine (l03Put_any a fs cap ⟨n, t, 0⟩ _ (HR.out.stays HB4.out) hl).mono ?_
          rintro e w5 ⟨v5, rfl, hown5, hb5⟩
          have HQ : Shut (WCells w5 (w2.heap.size + 1) [.slice none 0 0]) := ⟨by have := (wcells_new (w2.alloc (.cells #[.string n, .string t, .int .i64 0] 55)) #[.slice none 0 0] 26).grow hb5; simpa using this⟩
          have HY : Shut (WCells w5 (w.heap.size + 1 + 1) [.slice none 0 0]) := ⟨((HY2.out.alloc _).alloc _).grow hb5⟩
          have HB : Hid (Below w.heap.size w w5) := HB4.out.trans (hb5.mono HB4.out.size)
          clear hb5 HB4
          obtain ⟨va, vc, rfl⟩ := own_formD hown5
          have HQ6 : Shut (WCells (w5.setCell ⟨w2.heap.size + 1, 0, none⟩ (.slice va (putF ⟨n, t, 0⟩ fs).length vc)) (w2.heap.size + 1) [.slice va (putF ⟨n, t, 0⟩ fs).length vc]) := ⟨HQ.out.set 0 (.slice va (putF ⟨n, t, 0⟩ fs).length vc) (by simp)⟩
          have HY6 : Shut (WCells (w5.setCell ⟨w2.heap.size + 1, 0, none⟩ (.slice va (putF ⟨n, t, 0⟩ fs).length vc)) (w.heap.size + 1 + 1) [.slice none 0 0]) := ⟨HY.out.other _ _ (by simp; omega)⟩
          have HB6 : Hid (Below w.heap.size w (w5.setCell ⟨w2.heap.size + 1, 0, none⟩ (.slice va (putF ⟨n, t, 0⟩ fs).length vc))) := HB.out.setCell (by simp; omega) _
          have HO6 : Shut ((w5.setCell ⟨w2.heap.size + 1, 0, none⟩ (.slice va (putF ⟨n, t, 0⟩ fs).length vc)).ownsRow (w2.heap.size + 2) 55 3 (.slice va (putF ⟨n, t, 0⟩ fs).length vc) (putF ⟨n, t, 0⟩ fs).length (fcs (putF ⟨n, t, 0⟩ fs))) := ⟨own_other (own_wider hown5 (by simp)) (show w2.heap.size + 1 < w2.heap.size + 2 by omega) _ rfl _ rfl⟩
          obtain ⟨qc5, qf5⟩ := HQ.out.2 0 _ rfl
          clear hown5 HY HQ HB
          generalize hOUT : putF ⟨n, t, 0⟩ fs = out at *
          clear hOUT
          go_wp2_with fail
          refine (specDiskOk va out vc _ (FRw.of_own HO6.out).1.crow HFO.out hlo).mono ?_
          generalize hD2 : dOkB out = D2
          rintro e w7 ⟨rfl, hb7⟩
          have HY7 : Shut (WCells w7 (w.heap.size + 1 + 1) [.slice none 0 0]) := ⟨HY6.out.grow hb7⟩
          have HQ7 : Shut (WCells w7 (w2.heap.size + 1) [.slice va out.length vc]) := ⟨HQ6.out.grow hb7⟩
          have HB7 : Hid (Below w.heap.size w w7) := HB6.out.trans (hb7.mono HB6.out.size)
          have HO7 : Shut (w7.ownsRow (w2.heap.size + 2) 55 3 (.slice va out.length vc) out.length (fcs out)) := ⟨own_belowD HO6.out hb7⟩
          clear hb7 HY6 HQ6 HB6 HO6
          obtain ⟨yc, yf⟩ := HY7.out.2 0 _ rfl
          obtain ⟨qc, qf⟩ := HQ7.out.2 0 _ rfl
          cases D2 with
          | false =>
            have HE : Hid (rr = none) := HRR.out.symm.trans (doA_no fun o' ha he hd => by rw [HOA.out] at he; cases he; rw [dOkB_yes hd] at hD2; cases hD2)
            clear hD2
            go_wp2_with fail
            refine bodyPost_ret (v := .tuple #[.agg #[.slice none 0 0], .bool false]) (by simp [results, Try.results23, go_sem, yc]) rfl ?_
            rw [HE.out]
            exact ⟨none, 0, rfl, .inl ⟨rfl, rfl⟩, Nat.le_refl _, HB7.out.setCell (by simp; omega) _⟩
          | true =>
            have HE : Hid (rr = some out) := HRR.out.symm.trans (doA_of HOK.out HAI.out HOA.out (by by_cases h : DOk out; exact h; rw [dOkB_no h] at hD2; cases hD2))
            clear hD2
            go_wp2_with fail
            refine bodyPost_ret (v := .tuple #[.agg #[.slice va out.length vc], .bool true]) (by simp [results, Try.results23, go_sem, yc]) rfl ?_
            rw [HE.out]
            have ho8 := own_wider (C := w.heap.size) (own_other HO7.out (show w.heap.size + 1 + 1 < w2.heap.size + 2 by omega) ⟨w.heap.size + 1 + 1, 0, none⟩ rfl (.slice va out.length vc) rfl) (by omega)
            obtain ⟨hf8, hc8⟩ := FRw.of_own ho8
            exact ⟨va, vc, rfl, hf8, hc8, HB7.out.setCell (by simp; omega) _⟩
        · have HFN : Hid (fileOf fs n = some (fs.getD j default)) := fileOf_at hj h1 h2
          obtain ⟨b, off, rfl, lb, hc⟩ := FRow.at (HR.out.stays HB2.out) (by omega)
          obtain ⟨d0, d1, d2⟩ := hc j hj
          have hfo := HOK.out.ok fs[j] (List.getElem_mem hj)
          rw [← getD_atF fs j hj] at d0 d1 d2 hfo
          generalize fs.getD j default = f at *
          subst h1
          have hft := hfo.2.1
          have hfk0 := hfo.2.2.1
          have hfk1 := hfo.2.2.2
          have j0 : (0 : Int) ≤ (j : Int) := by omega
          have j1 : (j : Int) < (fs.length : Int) := by omega
          clear hc h2 hfo
          obtain ⟨T, hT⟩ : ∃ T, f.text ++ t = T := ⟨_, rfl⟩
          have hTs : T.size ≤ 9223372036854775807 := by rw [← hT, ByteArray.size_append]; omega
          have HOA : Hid (outA fs ⟨1, f.name, t, ⟨#[]⟩⟩ = some (putF ⟨f.name, T, f.kept⟩ fs)) := (by unfold outA; rw [if_pos rfl]; simp only [HFN.out]; show some (putF ⟨f.name, f.text ++ t, f.kept⟩ fs) = _; rw [hT] : outA fs ⟨1, f.name, t, ⟨#[]⟩⟩ = some (putF ⟨f.name, T, f.kept⟩ fs))
          have hpp := FFit.put HOK.out ⟨f.name, T, f.kept⟩ hn (by first | exact hTs | (show f.text.size ≤ _; omega)) (by constructor <;> first | (show _ ≤ f.kept; omega) | (show f.kept ≤ _; omega) | (show _ ≤ (f.text.size : Int); omega) | (show (f.text.size : Int) ≤ _; omega))
          have HFO : Hid (FFit (putF ⟨f.name, T, f.kept⟩ fs)) := hpp.1
          have hlo : (putF ⟨f.name, T, f.kept⟩ fs).length ≤ 1048576 := by have := hpp.2; omega
          clear hpp
          have HB4 : Hid (Below w.heap.size w ((w2.alloc (.cells #[.string f.name, .string T, .int .i64 f.kept] 55)).alloc (.cells #[.slice none 0 0] 26))) := (HB2.out.alloc HB2.out.size _).alloc (by have := HB2.out.size; simp; omega) _
          go_wp2_with fail
          refine (l03Put_any _ fs cap ⟨f.name, T, f.kept⟩ _ (HR.out.stays HB4.out) hl).mono ?_
          rintro e w5 ⟨v5, rfl, hown5, hb5⟩
          have HQ : Shut (WCells w5 (w2.heap.size + 1) [.slice none 0 0]) := ⟨by have := (wcells_new (w2.alloc (.cells #[.string f.name, .string T, .int .i64 f.kept] 55)) #[.slice none 0 0] 26).grow hb5; simpa using this⟩
          have HY : Shut (WCells w5 (w.heap.size + 1 + 1) [.slice none 0 0]) := ⟨((HY2.out.alloc _).alloc _).grow hb5⟩
          have HB : Hid (Below w.heap.size w w5) := HB4.out.trans (hb5.mono HB4.out.size)
          clear hb5 HB4
          obtain ⟨va, vc, rfl⟩ := own_formD hown5
          have HQ6 : Shut (WCells (w5.setCell ⟨w2.heap.size + 1, 0, none⟩ (.slice va (putF ⟨f.name, T, f.kept⟩ fs).length vc)) (w2.heap.size + 1) [.slice va (putF ⟨f.name, T, f.kept⟩ fs).length vc]) := ⟨HQ.out.set 0 (.slice va (putF ⟨f.name, T, f.kept⟩ fs).length vc) (by simp)⟩
          have HY6 : Shut (WCells (w5.setCell ⟨w2.heap.size + 1, 0, none⟩ (.slice va (putF ⟨f.name, T, f.kept⟩ fs).length vc)) (w.heap.size + 1 + 1) [.slice none 0 0]) := ⟨HY.out.other _ _ (by simp; omega)⟩
          have HB6 : Hid (Below w.heap.size w (w5.setCell ⟨w2.heap.size + 1, 0, none⟩ (.slice va (putF ⟨f.name, T, f.kept⟩ fs).length vc))) := HB.out.setCell (by simp; omega) _
          have HO6 : Shut ((w5.setCell ⟨w2.heap.size + 1, 0, none⟩ (.slice va (putF ⟨f.name, T, f.kept⟩ fs).length vc)).ownsRow (w2.heap.size + 2) 55 3 (.slice va (putF ⟨f.name, T, f.kept⟩ fs).length vc) (putF ⟨f.name, T, f.kept⟩ fs).length (fcs (putF ⟨f.name, T, f.kept⟩ fs))) := ⟨own_other (own_wider hown5 (by simp)) (show w2.heap.size + 1 < w2.heap.size + 2 by omega) _ rfl _ rfl⟩
          obtain ⟨qc5, qf5⟩ := HQ.out.2 0 _ rfl
          clear hown5 HY HQ HB
          generalize hOUT : putF ⟨f.name, T, f.kept⟩ fs = out at *
          clear hOUT
          go_wp2_with fail
          refine (specDiskOk va out vc _ (FRw.of_own HO6.out).1.crow HFO.out hlo).mono ?_
          generalize hD2 : dOkB out = D2
          rintro e w7 ⟨rfl, hb7⟩
          have HY7 : Shut (WCells w7 (w.heap.size + 1 + 1) [.slice none 0 0]) := ⟨HY6.out.grow hb7⟩
          have HQ7 : Shut (WCells w7 (w2.heap.size + 1) [.slice va out.length vc]) := ⟨HQ6.out.grow hb7⟩
          have HB7 : Hid (Below w.heap.size w w7) := HB6.out.trans (hb7.mono HB6.out.size)
          have HO7 : Shut (w7.ownsRow (w2.heap.size + 2) 55 3 (.slice va out.length vc) out.length (fcs out)) := ⟨own_belowD HO6.out hb7⟩
          clear hb7 HY6 HQ6 HB6 HO6
          obtain ⟨yc, yf⟩ := HY7.out.2 0 _ rfl
          obtain ⟨qc, qf⟩ := HQ7.out.2 0 _ rfl
          cases D2 with
          | false =>
            have HE : Hid (rr = none) := HRR.out.symm.trans (doA_no fun o' ha he hd => by rw [HOA.out] at he; cases he; rw [dOkB_yes hd] at hD2; cases hD2)
            clear hD2
            go_wp2_with fail
            refine bodyPost_ret (v := .tuple #[.agg #[.slice none 0 0], .bool false]) (by simp [results, Try.results23, go_sem, yc]) rfl ?_
            rw [HE.out]
            exact ⟨none, 0, rfl, .inl ⟨rfl, rfl⟩, Nat.le_refl _, HB7.out.setCell (by simp; omega) _⟩
          | true =>
            have HE : Hid (rr = some out) := HRR.out.symm.trans (doA_of HOK.out HAI.out HOA.out (by by_cases h : DOk out; exact h; rw [dOkB_no h] at hD2; cases hD2))
            clear hD2
            go_wp2_with fail
            refine bodyPost_ret (v := .tuple #[.agg #[.slice va out.length vc], .bool true]) (by simp [results, Try.results23, go_sem, yc]) rfl ?_
            rw [HE.out]
            have ho8 := own_wider (C := w.heap.size) (own_other HO7.out (show w.heap.size + 1 + 1 < w2.heap.size + 2 by omega) ⟨w.heap.size + 1 + 1, 0, none⟩ rfl (.slice va out.length vc) rfl) (by omega)
            obtain ⟨hf8, hc8⟩ := FRw.of_own ho8
            exact ⟨va, vc, rfl, hf8, hc8, HB7.out.setCell (by simp; omega) _⟩
      · have hoe := not_empty ho0
        have HE : Hid (rr = none) := HRR.out.symm.trans (doA_wrong (.inr ⟨(by decide : (1 : Int) ≠ 3), ho0⟩))
        clear M1 x1
        clear ho0
        obtain ⟨yc, yf⟩ := HY.out.2 0 _ rfl
        go_wp2_with fail
        refine bodyPost_ret (v := .tuple #[.agg #[.slice none 0 0], .bool false]) (by simp [results, Try.results23, go_sem, yc]) rfl ?_
        rw [HE.out]
        exact ⟨none, 0, rfl, .inl ⟨rfl, rfl⟩, Nat.le_refl _, HB.out.setCell (by simp; omega) _⟩
end Go.Proofs.Ytplcdcfhfaghiaa
