/- A disk that came in: the row of its files. -/
import Derived.Test.YtkkpddcncpdnpaaDiskA
import Derived.Deep.Slices
import Derived.Deep.Strs
import Derived.ChangeArms
import Derived.ChangeSame
import Derived.WideShapes
import Derived.OpenShut
namespace Go.Proofs.Ytkkpddcncpdnpaa
open Go.RowKit Go.Deep Go.ChangeShapes Go.WideShapes

theorem cellsDisk : Try.prog.cellsOf 24 = 1 := by kernel_rfl
theorem cellsFileL : Try.prog.cellsOf 85 = 3 := by kernel_rfl
theorem cellsFilesL : Try.prog.cellsOf 22 = 1 := by kernel_rfl
theorem cellsStr : Try.prog.cellsOf 9 = 1 := by kernel_rfl
theorem cellsInt : Try.prog.cellsOf 3 = 1 := by kernel_rfl
set_option maxRecDepth 100000 in
theorem open_files {H : Type} {enc : TypeId × Value → H} {W : World} {base : Nat} {spare : Nat → Bool} {held : Bool} {fuel : Nat} {cs : List Value} {x : DataW H × List MemPlace}
    (h : DataW.trod enc Try.prog W base spare held fuel 22 cs = some x) : ∃ a fs cap, cs = [.slice a (List.length (α := FM) fs) cap] ∧ FRow W a fs ∧ FFit fs := by
  rcases open_slice Try.underlying22 h with ⟨rfl, _⟩ | ⟨ad, len, cap, m, n, D, Pl, rfl, hb, hl, hm, hmm, _, hx⟩
  · exact ⟨none, [], 0, rfl, fun h => by simp [fcs] at h, by simp, by simp⟩
  · have hlm : len ≤ m := by rw [hmm]; split <;> omega
    have each : ∀ i, i < len → ∃ f : FM, (W.cell? (ad.add (i * 3)) = some (.string f.name) ∧ W.cell? (ad.add (i * 3 + 1)) = some (.string f.text) ∧ W.cell? (ad.add (i * 3 + 2)) = some (.int .i64 f.kept)) ∧
        f.name.size ≤ 9223372036854775807 ∧ f.text.size ≤ 9223372036854775807 ∧ -9223372036854775808 ≤ f.kept ∧ f.kept ≤ 9223372036854775807 := by
      intro i hi
      obtain ⟨cs', h1, h2⟩ := hx i (by omega)
      rw [cellsFileL] at h1
      obtain ⟨_, hlen, hcell⟩ := World.cells?_some h1
      obtain ⟨y0, y1, y2, k, _, _, g0, g1, g2⟩ := trod_struct3 Try.underlying85 h2
      match cs', hlen with
      | [v0, v1, v2], _ =>
        simp only [cellsStr, cellsInt, List.drop_zero, List.drop_succ_cons, List.take_succ_cons, List.take_zero] at g0 g1 g2
        obtain ⟨s0, e0, _, z0⟩ := DataW.trod_string Try.underlying9 g0
        obtain ⟨s1, e1, _, z1⟩ := DataW.trod_string Try.underlying9 g1
        obtain ⟨q, e2, _, z2⟩ := DataW.trod_int Try.underlying3 g2
        have c0 := hcell 0 (by omega)
        have c1 := hcell 1 (by omega)
        have c2 := hcell 2 (by omega)
        rw [add_add] at c0 c1 c2
        simp only [List.cons.injEq, and_true] at e0 e1 e2
        subst e0 e1 e2
        obtain ⟨b0, b1⟩ := bounds_i64 z2
        unfold maxLen at z0 z1
        exact ⟨⟨s0, s1, q⟩, ⟨by simpa using c0, by simpa using c1, by simpa using c2⟩, by simpa using z0, by simpa using z1, b0, b1⟩
    obtain ⟨F, hF⟩ := choose_lt each
    have hlen : ((List.range len).map F).length = len := by simp
    have hget : ∀ j (hj : j < ((List.range len).map F).length), ((List.range len).map F)[j] = F j := by intro j hj; simp
    refine ⟨some ad, (List.range len).map F, cap, by rw [hlen], ?_, ?_, ?_⟩
    · intro hp
      rw [fcs_len, hlen] at hp
      have hs : ad.spot = none := by
        have := World.cell?_spot (hF 0 (by omega)).1.1
        simpa [Addr.add] using this
      obtain ⟨b, off, spot⟩ := ad
      simp only at hs
      subst hs
      have hadd : ∀ i, (⟨b, off, none⟩ : Addr).add i = ⟨b, off + i, none⟩ := by intro i; cases i <;> simp [Addr.add]
      refine ⟨b, off, rfl, ?_, fun i v hv => ?_⟩
      · have c := (hF 0 (by omega)).1.1
        by_cases hb : b < W.heap.size
        · exact hb
        · unfold World.cell? at c
          rw [show ((⟨b, off, none⟩ : Addr).add (0 * 3)).block = b by simp [Addr.add], Array.getElem?_eq_none (by omega)] at c
          simp at c
      · have hi : i < (fcs ((List.range len).map F)).length := (List.getElem?_eq_some_iff.1 hv).1
        rw [fcs_len, hlen] at hi
        obtain ⟨q, r, rfl, hr3⟩ : ∃ q r, i = q * 3 + r ∧ r < 3 := ⟨i / 3, i % 3, by omega, by omega⟩
        have hj : q < ((List.range len).map F).length := by rw [hlen]; omega
        have l1 := flat_get fcells_len ((List.range len).map F) q hj r hr3
        rw [hget _ hj] at l1
        have l2 : (fcells (F q))[r]? = some v := by rw [← l1]; exact hv
        obtain ⟨⟨d0, d1, d2⟩, _⟩ := hF q (by omega)
        rw [hadd] at d0 d1 d2
        have hr : r = 0 ∨ r = 1 ∨ r = 2 := by omega
        rcases hr with rfl | rfl | rfl <;> simp [fcells] at l2 <;> subst l2
        · exact d0
        · exact d1
        · exact d2
    · rw [hlen]; unfold maxLen at hm; omega
    · intro f hf
      obtain ⟨j, hj, rfl⟩ := List.mem_map.1 hf
      exact (hF j (by simpa using hj)).2
set_option maxRecDepth 100000 in
theorem open_disk {H : Type} {enc : TypeId × Value → H} {W : World} {r : Reach} {b0 base : Nat} {spare : Nat → Bool} {held : Bool} {v : Value} {d : DataW H} {p : List MemPlace}
    (hv : Value.okWide Try.prog W r b0 24 v) (h : DataW.Trod enc Try.prog W base spare held 24 v d p) : ∃ a fs cap, v = .agg #[.slice a (List.length (α := FM) fs) cap] ∧ FRow W a fs ∧ FFit fs := by
  obtain ⟨cs, rfl, hsz⟩ := okWide_struct Try.underlying24 hv
  rw [cellsDisk] at hsz
  obtain ⟨fuel, hf⟩ := h
  obtain ⟨y0, n, _, _, h0⟩ := trod_struct1 Try.underlying24 hf
  obtain ⟨c0, rfl⟩ : ∃ c0, cs = #[c0] := by
    match cs, hsz with
    | ⟨[c0]⟩, _ => exact ⟨c0, rfl⟩
  simp only [cellsFilesL, Value.cells, List.drop_zero, List.take_succ_cons, List.take_zero] at h0
  obtain ⟨a, fs, cap, e, h1, h2⟩ := open_files h0
  simp only [List.cons.injEq, and_true] at e
  subst e
  exact ⟨a, fs, cap, rfl, h1, h2⟩
end Go.Proofs.Ytkkpddcncpdnpaa
