/- The program's own walks: acts, one and many; acts that are cut by a loss of power. -/
import Derived.Test.YtkkpddcncpdnpaaShF
import Derived.Test.YtkkpddcncpdnpaaLawD
import Derived.Test.YtkkpddcncpdnpaaImC
import Derived.Test.YtkkpddcncpdnpaaLawLose
namespace Go.Proofs.Ytkkpddcncpdnpaa
open Go.RowKit Go.Maps
attribute [local go_sem ↓] Go.wp_at_zero Go.wp_at_succ

/-- Acts that may be worked on. -/
def AGood (xs : List AM) : Prop := ∀ x ∈ xs, x.name.size ≤ 9223372036854775807 ∧ x.text.size ≤ 1048576 ∧ x.to.size ≤ 9223372036854775807
theorem MadeDisk.made {fs : List FM} {w w' : World} {e : Ending} (h : MadeDisk fs w e w') : ∃ va c, e = .returned (.agg #[.slice va fs.length c]) ∧ FRw w' va (fcs fs) w.heap.size w'.heap.size ∧ fs.length ≤ c ∧ Below w.heap.size w w' := by
  obtain ⟨v, rfl, hown, hb⟩ := h
  obtain ⟨va, c, rfl⟩ := own_form hown
  obtain ⟨h1, h2⟩ := FRw.of_own hown
  exact ⟨va, c, rfl, h1, h2, hb⟩
set_option maxHeartbeats 1000000 in
set_option maxRecDepth 100000 in
theorem implDoActs (a c : Option Addr) (fs : List FM) (xs : List AM) (cap capx : Nat) (w : World) (hr : FRow w a fs) (hf : FFit fs) (hl : fs.length ≤ 1048576) (hfs : fsum fs ≤ 1048576) (hx : ARow w c xs) (hxg : AGood xs) (hxl : xs.length ≤ 1048576) :
    Calls Try.prog 26 #[.agg #[.slice a fs.length cap], .slice c xs.length capx] w fun e w' => DiskPost (doAs fs xs).1 (.int .i64 ((doAs fs xs).2 : Nat)) w e w' := by
  have hb0 : Below w.heap.size w ((w.alloc (.cells #[.slice a fs.length cap] 29)).alloc (.cells #[.slice none 0 0] 29)) := ((Below.refl _ _).alloc (Nat.le_refl _) _).alloc (by simp) _
  have HR : Hid (FRow w a fs) := hr
  have HR0 : Hid (FRow ((w.alloc (.cells #[.slice a fs.length cap] 29)).alloc (.cells #[.slice none 0 0] 29)) a fs) := hr.stays hb0
  have HF : Hid (FFit fs) := hf
  have HXR : Hid (ARow w c xs) := hx
  have HXG : Hid (AGood xs) := hxg
  have hx0 := (wcells_new w #[.slice a fs.length cap] 29).alloc (.cells #[.slice none 0 0] 29)
  have hy0 := wcells_new (w.alloc (.cells #[.slice a fs.length cap] 29)) #[.slice none 0 0] 29
  simp only [World.size_alloc] at hx0 hy0
  have HX0 : Shut (WCells ((w.alloc (.cells #[.slice a fs.length cap] 29)).alloc (.cells #[.slice none 0 0] 29)) w.heap.size [.slice a fs.length cap]) := ⟨hx0⟩
  have HY0 : Shut (WCells ((w.alloc (.cells #[.slice a fs.length cap] 29)).alloc (.cells #[.slice none 0 0] 29)) (w.heap.size + 1) [.slice none 0 0]) := ⟨hy0⟩
  have HB0 : Hid (Below w.heap.size w ((w.alloc (.cells #[.slice a fs.length cap] 29)).alloc (.cells #[.slice none 0 0] 29))) := hb0
  have HSM : Hid (∀ f ∈ fs, f.name.size ≤ 281474976710656 ∧ f.text.size ≤ 281474976710656) := fun f hf => by have := fsum_mem hf; omega
  generalize hD : dOkB fs = D
  have HD : Hid (dOkB fs = D) := hD
  generalize hrr : doAs fs xs = rr
  have HRR : Hid (doAs fs xs = rr) := hrr
  clear hr hf hx hxg hx0 hy0 hb0 hD hrr hfs
  go_enter Try.func26, Try.ntmps26
  go_wp2_with fail
  refine (implDiskOk a fs cap _ HR0.out HF.out hl).mono ?_
  rw [HD.out]
  rintro e w1 ⟨rfl, hb1⟩
  have HX1 : Shut (WCells w1 w.heap.size [.slice a fs.length cap]) := ⟨HX0.out.grow hb1⟩
  have HY1 : Shut (WCells w1 (w.heap.size + 1) [.slice none 0 0]) := ⟨HY0.out.grow hb1⟩
  have HB1 : Hid (Below w.heap.size w w1) := HB0.out.trans (hb1.mono HB0.out.size)
  have x1 := (HX1.out.2 0 _ rfl).1
  clear hb1 HX0 HY0 HB0
  cases D with
  | false =>
    have HEQ : Hid (rr = (fs, 0)) := HRR.out.symm.trans (doAs_bad (fun h => by have := HD.out; rw [dOkB_yes h] at this; cases this) xs)
    go_wp2_with fail
    refine (copyOf_any a fs cap _ (HR.out.stays HB1.out) hl HSM.out).mono ?_
    rintro e w7 ⟨v7, rfl, hown7, hb7⟩
    obtain ⟨yc, yf⟩ := (HY1.out.grow hb7).2 0 _ rfl
    have HB7 : Hid (Below w.heap.size w w7) := HB1.out.trans (hb7.mono HB1.out.size)
    have hs7 := HY1.out.1
    obtain ⟨va7, vcap7, rfl⟩ := own_form hown7
    have HW7 : Hid (w.heap.size ≤ w1.heap.size) := HB1.out.size
    clear hb7
    go_wp2_with fail
    refine bodyPost_ret (v := .tuple #[.agg #[.slice va7 fs.length vcap7], .int .i64 (0 : Nat)]) (by simp [results, Try.results26, go_sem, yc]) rfl ?_
    rw [HEQ.out]
    have hown8 := own_wider (C := w.heap.size) (own_other hown7 hs7 ⟨w.heap.size + 1, 0, none⟩ rfl (.slice va7 fs.length vcap7) rfl) (by have := HW7.out; omega)
    obtain ⟨hf, hc⟩ := FRw.of_own hown8
    exact ⟨va7, vcap7, rfl, hf, hc, HB7.out.setCell (by simp) _⟩
  | true =>
    have HOK0 : Hid (DOk fs) := by
      by_cases h : DOk fs
      · exact h
      · have := HD.out; rw [dOkB_no h] at this; cases this
    go_wp2_with fail
    refine (shelfOf_any a fs cap _ (HR.out.stays HB1.out) HOK0.out).mono ?_
    rintro e w2 ⟨b, rfl, hsh2, hb2⟩
    have HSH2 : Hid (Shelf w2 w1.heap.size b fs) := hsh2
    have HB2 : Hid (Below w1.heap.size w1 w2) := hb2
    clear hsh2 hb2 x1 HX1
    go_wp2_with fail
    go_loopw [7] (fun v wr => ∃ (k : Nat) (cur : List FM), v = .int .i64 k ∧ k ≤ xs.length ∧ Shut (Ran fs xs k cur ∧ DOk cur) ∧ Shelf wr w1.heap.size b cur ∧ Below w1.heap.size w1 wr) (fun v _ => xs.length - (intOf v).toNat)
    case atStart => exact ⟨0, fs, rfl, Nat.zero_le _, ⟨Ran.start fs xs, HOK0.out⟩, HSH2.out, HB2.out⟩
    case round =>
      clear HSH2 HB2
      obtain ⟨k, cur, rfl, hk, hran, hsh, hbr⟩ := hrel
      have HY : Shut (WCells wr (w.heap.size + 1) [.slice none 0 0]) := ⟨HY1.out.grow hbr⟩
      have HB : Hid (Below w.heap.size w wr) := HB1.out.trans (hbr.mono HB1.out.size)
      have HSH : Hid (Shelf wr w1.heap.size b cur) := hsh
      have HOK : Hid (DOk cur) := hran.out.2
      by_cases hlt : k < xs.length
      · obtain ⟨bx, off, rfl, lb, hc⟩ := ARow.at (HXR.out.stays HB.out) (by omega)
        obtain ⟨d0, d1, d2, d3⟩ := hc k hlt
        have hgood := HXG.out xs[k] (List.getElem_mem hlt)
        have HST : Hid (∀ o, doA cur xs[k] = some o → Ran fs xs (k + 1) o) := fun o ho => hran.out.1.step hlt ho
        have HSP : Hid (doA cur xs[k] = none → doAs fs xs = (cur, k)) := fun ho => hran.out.1.stop hlt ho
        obtain ⟨x, hxe⟩ : ∃ x, x = xs[k] := ⟨_, rfl⟩
        rw [← hxe] at d0 d1 d2 d3 hgood HST HSP
        obtain ⟨g1, g2, g3⟩ := hgood
        have hbsz := hbr.size
        have HBR : Hid (Below w1.heap.size w1 wr) := hbr
        have k0 : (0 : Int) ≤ (k : Int) := by omega
        have k1 : (k : Int) < (xs.length : Int) := by omega
        clear hxe hc hbr hsh hran
        go_wp2_with fail
        refine (do_any b w1.heap.size cur x _ HSH.out HOK.out g1 g2 g3 hbsz).mono ?_
        generalize hre : doA cur x = r
        rintro e w4 ⟨rfl, hs4, hb4⟩
        have HB4 : Hid (Below w1.heap.size w1 w4) := HBR.out.trans hb4
        clear HSH HB HY hb4 HBR d0 d1 d2 d3
        have HY : Shut (WCells w4 (w.heap.size + 1) [.slice none 0 0]) := ⟨HY1.out.grow HB4.out⟩
        have HB : Hid (Below w.heap.size w w4) := HB1.out.trans (HB4.out.mono HB1.out.size)
        cases r with
        | none =>
          have HSH : Hid (Shelf w4 w1.heap.size b cur) := hs4
          have HEQ : Hid (rr = (cur, k)) := HRR.out.symm.trans (HSP.out hre)
          clear hs4 hre HST HSP
          go_wp2_with fail
          refine (disk_any b w1.heap.size cur _ HSH.out HOK.out).mono ?_
          rintro e w7 ⟨v7, rfl, hown7, hb7⟩
          obtain ⟨yc, yf⟩ := (HY.out.grow hb7).2 0 _ rfl
          have HB7 : Hid (Below w.heap.size w w7) := HB.out.trans (hb7.mono HB.out.size)
          have hs7 := HY.out.1
          obtain ⟨va7, vcap7, rfl⟩ := own_form hown7
          have HW7 : Hid (w.heap.size ≤ w4.heap.size) := HB.out.size
          clear hb7
          go_wp2_with fail
          show bodyPost Try.prog Try.f26 _ Exit.ret _ _
          refine bodyPost_ret (v := .tuple #[.agg #[.slice va7 cur.length vcap7], .int .i64 (k : Nat)]) (by simp [results, Try.results26, go_sem, yc]) rfl ?_
          rw [HEQ.out]
          have hown8 := own_wider (C := w.heap.size) (own_other hown7 hs7 ⟨w.heap.size + 1, 0, none⟩ rfl (.slice va7 cur.length vcap7) rfl) (by have := HW7.out; omega)
          obtain ⟨hf, hc⟩ := FRw.of_own hown8
          exact ⟨va7, vcap7, rfl, hf, hc, HB7.out.setCell (by simp) _⟩
        | some o =>
          have HOO : Shut (Ran fs xs (k + 1) o ∧ DOk o) := ⟨HST.out o hre, doA_ok hre⟩
          have HSH : Hid (Shelf w4 w1.heap.size b o) := hs4
          clear hs4 hre HST HSP
          go_wp2_with fail
          go_roundw
          case rel => exact ⟨k + 1, o, by go_num, by omega, HOO, HSH.out, HB4.out⟩
          case measure => simp [intOf]; omega
      · have e : k = xs.length := by omega
        subst e
        have HEQ : Hid (rr = (cur, xs.length)) := HRR.out.symm.trans hran.out.1.all
        clear hbr hsh hran
        go_wp2_with fail
        refine (disk_any b w1.heap.size cur _ HSH.out HOK.out).mono ?_
        rintro e w7 ⟨v7, rfl, hown7, hb7⟩
        obtain ⟨yc, yf⟩ := (HY.out.grow hb7).2 0 _ rfl
        have HB7 : Hid (Below w.heap.size w w7) := HB.out.trans (hb7.mono HB.out.size)
        have hs7 := HY.out.1
        obtain ⟨va7, vcap7, rfl⟩ := own_form hown7
        have HW7 : Hid (w.heap.size ≤ wr.heap.size) := HB.out.size
        clear hb7
        go_wp2_with fail
        show bodyPost Try.prog Try.f26 _ Exit.ret _ _
        refine bodyPost_ret (v := .tuple #[.agg #[.slice va7 cur.length vcap7], .int .i64 (xs.length : Nat)]) (by simp [results, Try.results26, go_sem, yc]) rfl ?_
        rw [HEQ.out]
        have hown8 := own_wider (C := w.heap.size) (own_other hown7 hs7 ⟨w.heap.size + 1, 0, none⟩ rfl (.slice va7 cur.length vcap7) rfl) (by have := HW7.out; omega)
        obtain ⟨hf, hc⟩ := FRw.of_own hown8
        exact ⟨va7, vcap7, rfl, hf, hc, HB7.out.setCell (by simp) _⟩
theorem doAs_one (fs : List FM) (x : AM) : doAs fs [x] = ((doA fs x).getD fs, if (doA fs x).isSome then 1 else 0) := by
  cases h : doA fs x <;> simp [doAs, h]
set_option maxHeartbeats 1000000 in
set_option maxRecDepth 100000 in
theorem implDoAct (a : Option Addr) (fs : List FM) (x : AM) (cap : Nat) (w : World) (hr : FRow w a fs) (hf : FFit fs) (hl : fs.length ≤ 1048576) (hfs : fsum fs ≤ 1048576) (hxg : AGood [x]) :
    Calls Try.prog 20 #[.agg #[.slice a fs.length cap], av x] w fun e w' => DiskPost ((doA fs x).getD []) (.bool (doA fs x).isSome) w e w' := by
  have HR : Hid (FRow w a fs) := hr
  have HF : Hid (FFit fs) := hf
  have HXG : Hid (AGood [x]) := hxg
  have m0 : Mem w w [] [] := ⟨by simp, by simp, Below.refl _ _⟩
  have m1 := ((m0.box #[.slice a fs.length cap] 29).box #[.int .i64 x.kind, .string x.name, .string x.text, .string x.to] 41).box #[.slice none 0 0] 29
  have m2 := m1.box #[.int .i64 x.kind, .string x.name, .string x.text, .string x.to] 41
  simp only [World.size_alloc] at m2
  have M2 : Shut _ := ⟨m2⟩
  generalize hrr : doA fs x = r
  have HRR : Hid (doA fs x = r) := hrr
  clear hr hf hxg m0 m1 m2 hrr
  go_enter Try.func20, Try.ntmps20
  go_wp2_with fail
  refine (implDoActs a (some ⟨w.heap.size + 1 + 1 + 1, 0, none⟩) fs [x] cap 1 _ (HR.out.stays M2.out.low) HF.out hl hfs (M2.out.cells _ (List.mem_cons_self ..)).crow HXG.out (by simp)).mono ?_
  rw [doAs_one, HRR.out]
  rintro e w3 ⟨va, c, rfl, hf3, hc3, hb3⟩
  have M3 := M2.out.below hb3
  have y3 := (M3.cells _ (List.mem_cons_of_mem _ (List.mem_cons_self ..))).2 0 _ rfl
  obtain ⟨yc, yf⟩ := y3
  have hs3 : w.heap.size + 1 + 1 < w3.heap.size := (M3.cells _ (List.mem_cons_of_mem _ (List.mem_cons_self ..))).1
  have HB3 : Hid (Below w.heap.size w w3) := M3.low
  have hlo : w.heap.size + 1 + 1 + 1 + 1 ≤ w3.heap.size := by have := hb3.size; simpa using this
  have hyw : WCells w3 (w.heap.size + 1 + 1) [.slice none 0 0] := M3.cells _ (List.mem_cons_of_mem _ (List.mem_cons_self ..))
  have HYW : Shut (WCells w3 (w.heap.size + 1 + 1) [.slice none 0 0]) := ⟨hyw⟩
  have HF3 : Shut (FRw w3 va (fcs (r.getD fs)) (w.heap.size + 1 + 1 + 1 + 1) w3.heap.size) := ⟨by simpa using hf3⟩
  clear M2 M3 hb3 hf3 hyw
  cases r with
  | none =>
    have rc := (((HYW.out.set 0 (.slice none 0 0) (by simp)).alloc (.cells #[.slice va fs.length c] 29)).2 0 _ rfl).1
    go_wp2_with fail
    refine bodyPost_ret (v := .tuple #[.agg #[.slice none 0 0], .bool false]) (by simp [results, Try.results20, go_sem, rc]) rfl ⟨none, 0, rfl, .inl ⟨rfl, rfl⟩, Nat.le_refl _, (HB3.out.setCell (by simp; omega) _).alloc (by have := HB3.out.size; simp [World.setCell]; omega) _⟩
  | some o =>
    have rc := (((HYW.out.set 0 (.slice va o.length c) (by simp)).alloc (.cells #[.slice va o.length c] 29)).2 0 _ rfl).1
    go_wp2_with fail
    refine bodyPost_ret (v := .tuple #[.agg #[.slice va o.length c], .bool true]) (by simp [results, Try.results20, go_sem, rc]) rfl ⟨va, c, rfl, ?_, hc3, (HB3.out.setCell (by simp; omega) _).alloc (by have := HB3.out.size; simp [World.setCell]; omega) _⟩
    rcases HF3.out with h | ⟨g, h1, h2, h3, h4⟩
    · exact .inl h
    · exact .inr ⟨g, h1, by omega, by simp [World.setCell]; omega, (h4.other _ _ (by simp; omega)).alloc _⟩
end Go.Proofs.Ytkkpddcncpdnpaa
