/- Texts of ours, laid one behind the other: LawAct, OpenC, KeepB, KeepL. -/
import Derived.Test.YtplcdcfhfaghiaaPa11
import Derived.OpenShut
/- LawAct: The law on DoAct: its walk. -/
namespace Go.Proofs.Ytplcdcfhfaghiaa
set_option maxRecDepth 100000
open Go.RowKit
attribute [local go_sem ↓] Go.wp_at_zero Go.wp_at_succ

theorem SA.low {w0 w : World} {q : Nat} {v : Value} {b o1 o2 o3 o4 : Nat} {x : AM} {L : List (Nat × List Value)} {R : List (Option Addr × List Value × Nat × Nat)} (h : SA w0 w q v b o1 o2 o3 o4 x L R) : Below w0.heap.size w0 w := h.2.2.2.2.2.out.low
theorem SA.mem {w0 w : World} {q : Nat} {v : Value} {b o1 o2 o3 o4 : Nat} {x : AM} {L : List (Nat × List Value)} {R : List (Option Addr × List Value × Nat × Nat)} (h : SA w0 w q v b o1 o2 o3 o4 x L R) : Mem w0 w L R := h.2.2.2.2.2.out
theorem SA.rowAt {w0 w : World} {q : Nat} {v : Value} {b o1 o2 o3 o4 : Nat} {x : AM} {L : List (Nat × List Value)} {R : List (Option Addr × List Value × Nat × Nat)} {va : Option Addr} {X : List Value} {lo hi : Nat} (h : SA w0 w q v b o1 o2 o3 o4 x L ((va, X, lo, hi) :: R)) : CRow w va X := h.mem.at0.crow
theorem implDoActR {fs : List FM} {x : AM} {r : Option (List FM)} (hr' : doA fs x = r) (a : Option Addr) (cap : Nat) (w : World) (hr : FRow w a fs) (hf : FFit fs) (hl : fs.length ≤ 1048576) (hfs : fsum fs ≤ 1048576) (hxg : AGood [x]) :
    Calls Try.prog 9 #[.agg #[.slice a fs.length cap], av x] w fun e w' => DiskPost (r.getD []) (.bool r.isSome) w e w' := hr' ▸ implDoAct a fs x cap w hr hf hl hfs hxg
theorem LMem.x1 {w0 w : World} {L : List (Nat × List Value)} {R : List (Option Addr × List Value × Nat × Nat)} {p q : Nat} {u v : Value} {r0 : Option Addr × List Value × Nat × Nat} {va : Option Addr} {X : List Value} {lo hi : Nat} (h : w.cell? ⟨p, 0, none⟩ = some u ∧ w.cell? ⟨q, 0, none⟩ = some v ∧ Shut (Mem w0 w L (r0 :: (va, X, lo, hi) :: R))) : CRow w va X := h.2.2.out.at1.crow
end Go.Proofs.Ytplcdcfhfaghiaa
/- OpenC: The code that a drawn law is handed: what came in. -/
namespace Go.Proofs.Ytplcdcfhfaghiaa
set_option maxRecDepth 100000
open Go.RowKit Go.ChangeShapes Go.WideShapes
set_option maxRecDepth 100000 in
theorem open_code {H : Type} {enc : TypeId × Value → H} {W : World} {r : Reach} {b0 base : Nat} {held : Bool} {v : Value} {d : DataW H} {p : List MemPlace}
    (hv : Value.okWide Try.prog W r b0 22 v) (h : DataW.Trod enc Try.prog W base (fun _ => true) held 22 v d p) : ∃ a len cap, v = .slice a len cap ∧ (len ≤ 1048576 → CodeAt W W.heap.size a len) := by
  obtain ⟨a0, l0, c0, rfl⟩ := okWide_slice Try.underlying22 hv
  refine ⟨a0, l0, c0, rfl, fun hl => ?_⟩
  obtain ⟨fuel, hf⟩ := h
  rcases open_ints Try.underlying22 Try.underlying5 (by kernel_rfl) hf with ⟨hcs, _⟩ | ⟨x, l, c, zs, hcs, _, hl', hm, hz, _, hcell, hwz⟩
  · simp [Value.cells] at hcs
    obtain ⟨rfl, rfl, rfl⟩ := hcs
    exact code_at (cap := 0) (zs := []) hl (.inl ⟨rfl, rfl⟩)
  · simp [Value.cells] at hcs
    obtain ⟨rfl, rfl, rfl⟩ := hcs
    exact code_at (cap := c0) (zs := zs) hl (.inr ⟨_, rfl, hl', by simpa using hz, hcell, hwz⟩)
end Go.Proofs.Ytplcdcfhfaghiaa
/- KeepB: A drawn disk that is right. -/
namespace Go.Proofs.Ytplcdcfhfaghiaa
set_option maxRecDepth 100000
open Go.RowKit
attribute [local go_sem ↓] Go.wp_at_zero Go.wp_at_succ

theorem FRw.wide' {w : World} {va : Option Addr} {X : List Value} {lo lo' hi : Nat} (h : FRw w va X lo hi) (hl : lo' ≤ lo) : FRw w va X lo' hi := by
  rcases h with h | ⟨g, h1, h2, h3, h4⟩
  · exact .inl h
  · exact .inr ⟨g, h1, by omega, h3, h4⟩
theorem Mem.setBox' {w0 w : World} {L : List (Nat × List Value)} {R : List (Option Addr × List Value × Nat × Nat)} (M : Mem w0 w L R) {g : Nat} {u : Value} (hg : WCells w g [u]) (v : Value) (h0 : w0.heap.size ≤ g) (hL : ∀ p ∈ L, p.1 ≠ g) (hR : ∀ r ∈ R, g < r.2.2.1 ∨ r.2.2.2 ≤ g) : Mem w0 (w.setCell ⟨g, 0, none⟩ v) ((g, [v]) :: L) R := by
  refine ⟨fun p hp => ?_, fun r hr => ?_, M.low.setCell h0 v⟩
  · rcases List.mem_cons.1 hp with rfl | h
    · exact hg.set 0 v (by simp)
    · exact (M.cells p h).other _ _ (hL p h)
  · rcases M.rows r hr with h | ⟨g', h1, h2, h3, h4⟩
    · exact .inl h
    · exact .inr ⟨g', h1, h2, h3, h4.other _ _ (by rcases hR r hr with h | h <;> (simp; omega))⟩
theorem Mem.wide' {w0 w : World} {L : List (Nat × List Value)} {R : List (Option Addr × List Value × Nat × Nat)} {va : Option Addr} {X : List Value} {lo lo' hi : Nat} (M : Mem w0 w L ((va, X, lo, hi) :: R)) (hl : lo' ≤ lo) : Mem w0 w L ((va, X, lo', hi) :: R) := by
  refine ⟨M.cells, fun r hr => ?_, M.low⟩
  rcases List.mem_cons.1 hr with rfl | h
  · exact M.at0.wide' hl
  · exact M.rows r (List.mem_cons_of_mem _ h)
theorem Cur.other {w : World} {g B len cap : Nat} {a : Option Addr} (h : Cur w g B a len cap) (q : Nat) (v : Value) (hq : q ≠ g) (hB : B ≤ q) : Cur (w.setCell ⟨q, 0, none⟩ v) g B a len cap := by
  obtain ⟨h1, h2, h3, h4, ⟨i, h5, h5'⟩, ⟨k, h6⟩, h7⟩ := h
  have oth : ∀ j, (w.setCell ⟨q, 0, none⟩ v).cell? ⟨g, j, none⟩ = w.cell? ⟨g, j, none⟩ := fun j => World.cell?_of_block (Below.heap_setCell w ⟨q, 0, none⟩ v g (fun e => hq e.symm))
  exact ⟨h1, by simpa [World.setCell] using h2, h3.gb (gb_set w q 0 v) hB, (oth 0).trans h4, ⟨i, (oth 1).trans h5, h5'⟩, ⟨k, (oth 2).trans h6⟩, fun j hj => (World.frozen?_setCell _ _ _ _).trans (h7 j hj)⟩
/-- A disk that was drawn: it is right. -/
def RightPost (w : World) (e : Ending) (w' : World) : Prop :=
  ∃ va c fs, e = .returned (.agg #[.slice va (List.length (α := FM) fs) c]) ∧ DOk fs ∧ fs.length ≤ 6 ∧ FRw w' va (fcs fs) w.heap.size w'.heap.size ∧ Below w.heap.size w w'
end Go.Proofs.Ytplcdcfhfaghiaa
/- KeepL: The law on what is kept: its walk. -/
namespace Go.Proofs.Ytplcdcfhfaghiaa
set_option maxRecDepth 100000
open Go.RowKit Go.ChangeShapes Go.WideShapes
attribute [local go_sem ↓] Go.wp_at_zero Go.wp_at_succ

theorem DOk.fit' {fs : List FM} (h : DOk fs) : FFit fs := by
  refine ⟨by have := h.1; omega, fun f hf => ?_⟩
  have := h.ok f hf
  have h1 := this.1.2
  have h2 := this.2.1
  have h3 := this.2.2.1
  have h4 := this.2.2.2
  exact ⟨by omega, by omega, by omega, by omega⟩
theorem lost_get (fs : List FM) (left : List Int) (n j : Nat) (hj : j < n) : (lostTo fs left n)[j]'(by rw [lostTo_len]; exact hj) = lostF (fs.getD j default) left[j]? := by
  unfold lostTo; simp
theorem lostF_size (f : FM) (l : Option Int) (h0 : 0 ≤ f.kept) (h1 : f.kept ≤ f.text.size) : ((lostF f l).text.size : Int) = leftOf f l := by
  obtain ⟨b0, b1⟩ := leftOf_in f l h0 h1
  unfold lostF
  show ((f.text.extract 0 (leftOf f l).toNat).size : Int) = leftOf f l
  rw [ByteArray.size_extract]
  omega
theorem lost_ok {fs : List FM} (left : List Int) (h : DOk fs) : DOk (lostTo fs left fs.length) := by
  refine DOk.of_up (by rw [lostTo_len]; exact h.1) (fun f hf => ?_) ?_
  · obtain ⟨j, hj, rfl⟩ := List.getElem_of_mem hf
    rw [lostTo_len] at hj
    rw [lost_get fs left _ j hj, getD_atF fs j hj]
    have ho := h.ok fs[j] (List.getElem_mem hj)
    have hs := lostF_size fs[j] left[j]? ho.2.2.1 ho.2.2.2
    obtain ⟨b0, b1⟩ := leftOf_in fs[j] left[j]? ho.2.2.1 ho.2.2.2
    have hk : (lostF fs[j] left[j]?).kept = leftOf fs[j] left[j]? := rfl
    exact ⟨ho.1, by have := ho.2.1; omega, by rw [hk]; exact b0, by rw [hk, hs]; exact Int.le_refl _⟩
  · refine List.pairwise_iff_getElem.2 fun i j hi hj hij => ?_
    rw [lostTo_len] at hi hj
    rw [lost_get fs left _ i hi, lost_get fs left _ j hj, getD_atF fs i hi, getD_atF fs j hj]
    exact List.pairwise_iff_getElem.1 h.up i j hi hj hij
theorem lost_kept {fs : List FM} (left : List Int) (h : DOk fs) : ∀ f ∈ lostTo fs left fs.length, f.kept = (f.text.size : Int) := by
  intro f hf
  obtain ⟨j, hj, rfl⟩ := List.getElem_of_mem hf
  rw [lostTo_len] at hj
  rw [lost_get fs left _ j hj, getD_atF fs j hj]
  have ho := h.ok fs[j] (List.getElem_mem hj)
  exact (lostF_size fs[j] left[j]? ho.2.2.1 ho.2.2.2).symm
theorem lost_again {es : List FM} (h : ∀ f ∈ es, f.kept = (f.text.size : Int)) : lostTo es [] es.length = es := by
  apply List.ext_getElem (by rw [lostTo_len])
  intro j h1 h2
  rw [lost_get es [] _ j h2, getD_atF es j h2]
  have hk := h es[j] (List.getElem_mem h2)
  have hm : mostOf es[j] ([] : List Int)[j]? = 0 := by unfold mostOf; simp; intro hh; omega
  have hl : leftOf es[j] ([] : List Int)[j]? = es[j].kept := by unfold leftOf; rw [hm]; split <;> omega
  unfold lostF
  rw [hl, hk, Int.toNat_natCast]
  rw [show es[j].text.extract 0 es[j].text.size = es[j].text by simp]
  rw [← hk]
theorem lost_akept {fs : List FM} (left : List Int) (h : DOk fs) : akB (lostTo fs left fs.length) = true := by
  refine akB_yes ⟨lost_ok left h, fun k hk => ?_⟩
  rw [getD_atF _ k hk, lost_kept left h _ (List.getElem_mem hk)]
  exact Int.le_refl _
structure Pre (t s : ByteArray) : Prop where
  fits : s.size ≤ 9223372036854775807
  pre : ∃ n, n ≤ s.size ∧ t = s.extract 0 n
end Go.Proofs.Ytplcdcfhfaghiaa
