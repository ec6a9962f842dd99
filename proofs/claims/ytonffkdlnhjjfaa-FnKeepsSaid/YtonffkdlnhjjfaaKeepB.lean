/- A drawn disk that is right. -/
import Derived.Test.YtonffkdlnhjjfaaKeepA
import Derived.Test.YtonffkdlnhjjfaaActM
import Derived.Test.YtonffkdlnhjjfaaLawM
namespace Go.Proofs.Ytonffkdlnhjjfaa
open Go.RowKit
attribute [local go_sem ↓] Go.wp_at_zero Go.wp_at_succ

theorem FRw.wide' {w : World} {va : Option Addr} {X : List Value} {lo lo' hi : Nat} (h : FRw w va X lo hi) (hl : lo' ≤ lo) : FRw w va X lo' hi := by
  rcases h with h | ⟨g, h1, h2, h3, h4⟩
  · exact .inl h
  · exact .inr ⟨g, h1, by omega, h3, h4⟩
theorem Mem.setBox' {w0 w : World} {L : List (Nat × List Value)} {R : List (Option Addr × List Value × Nat × Nat)} (M : Mem w0 w L R) {g : Nat} {u : Value} (hg : WCells w g [u]) (v : Value) (h0 : w0.heap.size ≤ g) (hL : ∀ p ∈ L, p.1 ≠ g) (hR : ∀ r ∈ R, g < r.2.2.1 ∨ r.2.2.2 ≤ g) : Mem w0 (w.setCell ⟨g, 0, none⟩ v) ((g, [v]) :: L) R := by
  refine ⟨fun p hp => ?_, fun r hr => ?_, M.low.setCell h0 v⟩
  · rcases List.mem_cons.1 hp with rfl | h
    · exact hg.set 0 v (by simp)
    · exact (M.cells p h).other _ _ (hL p h)
  · rcases M.rows r hr with h | ⟨g', h1, h2, h3, h4⟩
    · exact .inl h
    · exact .inr ⟨g', h1, h2, h3, h4.other _ _ (by rcases hR r hr with h | h <;> (simp; omega))⟩
theorem Mem.wide' {w0 w : World} {L : List (Nat × List Value)} {R : List (Option Addr × List Value × Nat × Nat)} {va : Option Addr} {X : List Value} {lo lo' hi : Nat} (M : Mem w0 w L ((va, X, lo, hi) :: R)) (hl : lo' ≤ lo) : Mem w0 w L ((va, X, lo', hi) :: R) := by
  refine ⟨M.cells, fun r hr => ?_, M.low⟩
  rcases List.mem_cons.1 hr with rfl | h
  · exact M.at0.wide' hl
  · exact M.rows r (List.mem_cons_of_mem _ h)
theorem Cur.other {w : World} {g B len cap : Nat} {a : Option Addr} (h : Cur w g B a len cap) (q : Nat) (v : Value) (hq : q ≠ g) (hB : B ≤ q) : Cur (w.setCell ⟨q, 0, none⟩ v) g B a len cap := by
  obtain ⟨h1, h2, h3, h4, ⟨i, h5, h5'⟩, ⟨k, h6⟩, h7⟩ := h
  have oth : ∀ j, (w.setCell ⟨q, 0, none⟩ v).cell? ⟨g, j, none⟩ = w.cell? ⟨g, j, none⟩ := fun j => World.cell?_of_block (Below.heap_setCell w ⟨q, 0, none⟩ v g (fun e => hq e.symm))
  exact ⟨h1, by simpa [World.setCell] using h2, h3.gb (gb_set w q 0 v) hB, (oth 0).trans h4, ⟨i, (oth 1).trans h5, h5'⟩, ⟨k, (oth 2).trans h6⟩, fun j hj => (World.frozen?_setCell _ _ _ _).trans (h7 j hj)⟩
/-- A disk that was drawn: it is right. -/
def RightPost (w : World) (e : Ending) (w' : World) : Prop :=
  ∃ va c fs, e = .returned (.agg #[.slice va (List.length (α := FM) fs) c]) ∧ DOk fs ∧ fs.length ≤ 6 ∧ FRw w' va (fcs fs) w.heap.size w'.heap.size ∧ Below w.heap.size w w'
set_option maxHeartbeats 2000000 in
set_option maxRecDepth 100000 in
theorem drawRight_any (w : World) (a : Option Addr) (len cap : Nat) (hc : CodeAt w w.heap.size a len) :
    Calls Try.prog 6 #[.slice a len cap] w fun e w' => RightPost w e w' := by
  have HC : Hid (CodeAt w w.heap.size a len) := hc
  have hlen := hc.1
  have m0 : Mem w w [] [] := ⟨by simp, by simp, Below.refl _ _⟩
  have M0 : Shut (Mem w (w.alloc (.cells #[.slice none 0 0] 26)) [(w.heap.size, [.slice none 0 0])] []) := ⟨m0.box #[.slice none 0 0] 26⟩
  clear hc m0
  go_enter Try.func6, Try.ntmps6
  go_wp2_with fail
  refine (l01New_any _ a len cap (by have := HC.out.below (w' := w.alloc (.cells #[.slice none 0 0] 26)) M0.out.low (Nat.le_refl _); exact ⟨this.1, fun h => by obtain ⟨b, off, e, hb, hx⟩ := this.2 h; exact ⟨b, off, e, by simp; omega, hx⟩⟩)).mono ?_
  rintro e w1 ⟨g, rfl, hg, hcur, hb1⟩
  have M1 : Shut (Mem w (w1.alloc (.cells #[.slice none 0 0] 26)) [(w1.heap.size, [.slice none 0 0]), (w.heap.size, [.slice none 0 0])] [(none, fcs [], g + 1, w1.heap.size)]) := ⟨((M0.out.below hb1).row (.inl ⟨rfl, rfl⟩)).box #[.slice none 0 0] 26⟩
  have hg' : w.heap.size + 1 ≤ g := by simpa using hg
  have hgl := hcur.2.1
  have HCU : Shut (Cur (w1.alloc (.cells #[.slice none 0 0] 26)) g (w.heap.size + 1) a len cap) := ⟨by have := hcur.below ((Below.refl _ _).alloc (Nat.le_refl _) (.cells #[.slice none 0 0] 26)); simpa using this⟩
  clear hb1 hcur hg M0
  go_wp2_with fail
  go_loopw [5] (fun i wr => ∃ (k hi vc : Nat) (va : Option Addr) (fs : List FM), i = .int .i64 k ∧ k ≤ 6 ∧ Shut (Up fs ∧ ∀ f ∈ fs, FOk f) ∧ fs.length ≤ k ∧ hi ≤ wr.heap.size ∧ Shut (Cur wr g (w.heap.size + 1) a len cap) ∧ Shut (Mem w wr [(w1.heap.size, [.slice va fs.length vc]), (w.heap.size, [.slice none 0 0])] [(va, fcs fs, g + 1, hi)])) (fun i _ => 6 - (intOf i).toNat)
  case atStart => exact ⟨0, w1.heap.size, 0, none, [], rfl, by omega, ⟨List.Pairwise.nil, by simp⟩, by simp, by simp, HCU, M1⟩
  case round =>
    clear M1 HCU
    obtain ⟨k, hi, vc, va, fs, rfl, hk, hgood, hfl, hhi, hcu, hm⟩ := hrel
    have hwr : w1.heap.size < wr.heap.size := hm.out.lt0
    go_wp2_with fail
    refine (l01Below_any _ g (w.heap.size + 1) a len cap 6 (by decide) hcu.out).mono ?_
    rintro e w2 ⟨x, rfl, x0, x1, hc2, hg2⟩
    have HC2 : Shut (Cur w2 g (w.heap.size + 1) a len cap) := ⟨hc2⟩
    have HM2 : Shut (Mem w w2 [(w1.heap.size, [.slice va fs.length vc]), (w.heap.size, [.slice none 0 0])] [(va, fcs fs, g + 1, hi)]) := ⟨hm.out.grown hg2 (fun p hp g' e => by simp at e; subst e; simp at hp; rcases hp with rfl | rfl <;> (simp; omega)) (fun r hr g' e => by simp at e; subst e; simp at hr; subst hr; simp) (fun g' e => by simp at e; omega)⟩
    have s2 := hg2.size
    clear hc2 hg2 hcu hm
    by_cases hlt : (k : Int) < x
    · go_wp2_with fail
      refine (l01Below_any _ g (w.heap.size + 1) a len cap 30 (by decide) HC2.out).mono ?_
      rintro e w3 ⟨y, rfl, y0, y1, hc3, hg3⟩
      have HC3 : Shut (Cur w3 g (w.heap.size + 1) a len cap) := ⟨hc3⟩
      have HM3 : Shut (Mem w w3 [(w1.heap.size, [.slice va fs.length vc]), (w.heap.size, [.slice none 0 0])] [(va, fcs fs, g + 1, hi)]) := ⟨HM2.out.grown hg3 (fun p hp g' e => by simp at e; subst e; simp at hp; rcases hp with rfl | rfl <;> (simp; omega)) (fun r hr g' e => by simp at e; subst e; simp at hr; subst hr; simp) (fun g' e => by simp at e; omega)⟩
      have s3 := hg3.size
      obtain ⟨ny, rfl⟩ := Int.eq_ofNat_of_zero_le y0
      have hny : ny < 30 := by omega
      clear hc3 hg3 HC2 HM2
      go_wp2_with fail
      refine (l01Text_any _ g (w.heap.size + 1) a len cap ny (by omega) HC3.out).mono ?_
      rintro e w4 ⟨t, rfl, ht, hc4, hg4⟩
      have HC4 : Shut (Cur w4 g (w.heap.size + 1) a len cap) := ⟨hc4⟩
      have HM4 : Shut (Mem w w4 [(w1.heap.size, [.slice va fs.length vc]), (w.heap.size, [.slice none 0 0])] [(va, fcs fs, g + 1, hi)]) := ⟨HM3.out.grown hg4 (fun p hp g' e => by simp at e; subst e; simp at hp; rcases hp with rfl | rfl <;> (simp; omega)) (fun r hr g' e => by simp at e; subst e; simp at hr; subst hr; simp) (fun g' e => by simp at e; omega)⟩
      have s4 := hg4.size
      have d4 := HM4.out.cell0
      have hwr : IntKind.i64.wrap ((t.size : Int) + 1) = (t.size : Int) + 1 := IntWalk.i64_in _ ⟨by omega, by omega⟩
      clear hc4 hg4 HC3 HM3
      go_wp2_with fail
      go_region_with (first
        | (go_at_call 25; refine (l03Named_any _ g (w.heap.size + 1) a len cap (show Cur w4.drew g (w.heap.size + 1) a len cap from HC4.out)).mono ?_; rintro e w5 ⟨n, rfl, n1, n2, hc5, hg5⟩; have HM5 : Shut (Mem w w5 [(w1.heap.size, [.slice va fs.length vc]), (w.heap.size, [.slice none 0 0])] [(va, fcs fs, g + 1, hi)]) := ⟨HM4.out.drew.grown hg5 (fun p hp g' e => by simp at e; subst e; simp at hp; rcases hp with rfl | rfl <;> (simp; omega)) (fun r hr g' e => by simp at e; subst e; simp at hr; subst hr; simp) (fun g' e => by simp at e; omega)⟩; have s5 := hg5.size; have d5 := HM5.out.cell0)
        | (go_at_call 22; refine (l01Below_any _ g (w.heap.size + 1) a len cap ((t.size : Int) + 1) (by omega) hc5).mono ?_; rintro e w6 ⟨z, rfl, z0, z1, hc6, hg6⟩; have HM6 : Shut (Mem w w6 [(w1.heap.size, [.slice va fs.length vc]), (w.heap.size, [.slice none 0 0])] [(va, fcs fs, g + 1, hi)]) := ⟨HM5.out.grown hg6 (fun p hp g' e => by simp at e; subst e; simp at hp; rcases hp with rfl | rfl <;> (simp; omega)) (fun r hr g' e => by simp at e; subst e; simp at hr; subst hr; simp) (fun g' e => by simp at e; omega)⟩; have s6 := hg6.size; have d6 := HM6.out.cell0)
        | (go_at_call 24; refine (l03Put_any va fs vc ⟨n, t, z⟩ _ HM6.out.at0.crow (by omega)).mono ?_; rintro e w7 ⟨v7, rfl, hown7, hb7⟩; obtain ⟨va7, vc7, rfl⟩ := own_form hown7; have HM7 : Shut (Mem w w7 [(w1.heap.size, [.slice va fs.length vc]), (w.heap.size, [.slice none 0 0])] [(va, fcs fs, g + 1, hi)]) := ⟨HM6.out.below hb7⟩; obtain ⟨d7, f7⟩ := (HM7.out.cells _ (List.mem_cons_self ..)).2 0 _ rfl; have s7 := hb7.size))
      all_goals go_wp2_with fail
      all_goals
        (try simp at s5)
        have hfo : FOk ⟨n, t, z⟩ := ⟨⟨n1, n2⟩, by show t.size ≤ 20000; omega, z0, by show z ≤ (t.size : Int); omega⟩
        have hpl : (putF ⟨n, t, z⟩ fs).length ≤ k + 1 := by rw [put_len hgood.out.1]; have := without_len n fs; show (withoutF n fs).length + 1 ≤ k + 1; omega
        have hf7 := (FRw.of_own hown7).1
        have hgw := HC4.out.2.1
        refine ⟨⟨k + 1, w7.heap.size, vc7, va7, putF ⟨n, t, z⟩ fs, by go_num, by omega, ⟨hgood.out.1.put _, fun f hf => by rcases mem_putF.1 hf with rfl | ⟨h, _⟩; exact hfo; exact hgood.out.2 f h⟩, hpl, by simp [World.setCell], ⟨?_⟩, ⟨((HM7.out.less (L' := [(w.heap.size, [.slice none 0 0])]) (R' := []) (by simp) (by simp)).row hf7).setBox' (HM7.out.cells _ (List.mem_cons_self ..)) _ (by omega) (by simp; omega) (by simp; omega) |>.wide' (by omega)⟩⟩, by simp [intOf]; omega⟩
        exact (hc6.below hb7).other _ _ (by omega) (by omega)
    · have HOK : Hid (DOk fs) := DOk.of_up (by omega) hgood.out.2 hgood.out.1
      obtain ⟨d0, _⟩ := (HM2.out.cells _ (List.mem_cons_self ..)).2 0 _ rfl
      obtain ⟨y0, y1⟩ := (HM2.out.cells _ (List.mem_cons_of_mem _ (List.mem_cons_self ..))).2 0 _ rfl
      have hsz : w.heap.size < w2.heap.size := HM2.out.lt1
      have HF : Shut (FRw w2 va (fcs fs) (g + 1) hi) := ⟨HM2.out.at0⟩
      have HB : Hid (Below w.heap.size w w2) := HM2.out.low
      clear HM2 HC2
      go_wp2_with fail
      show bodyPost Try.prog Try.f6 _ Exit.ret _ _
      refine bodyPost_ret (v := .agg #[.slice va fs.length vc]) (by simp [results, Try.results6, go_sem, y0]) rfl ⟨va, vc, fs, rfl, HOK.out, by omega, ?_, HB.out.setCell (by simp) _⟩
      rcases HF.out with h | ⟨g', e1, e2, e3, e4⟩
      · exact .inl h
      · exact .inr ⟨g', e1, by omega, by have := e4.1; simp [World.setCell]; omega, e4.other _ _ (by simp; omega)⟩
end Go.Proofs.Ytonffkdlnhjjfaa
