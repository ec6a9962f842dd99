/- Rows of numbers, of rows of numbers, and of texts, that came in. -/
import Derived.Test.YtendbipfmgnjkaaNestA
import Derived.Deep.Slices
import Derived.Deep.Strs
import Derived.ChangeArms
import Derived.ChangeSame
import Derived.WideShapes
import Derived.OpenShut
namespace Go.Proofs.Ytendbipfmgnjkaa
set_option maxRecDepth 100000
open Go.RowKit Go.Deep Go.ChangeShapes Go.WideShapes

theorem cells_int : Try.prog.cellsOf 3 = 1 := by kernel_rfl
theorem cells_ints : Try.prog.cellsOf 24 = 1 := by kernel_rfl
theorem cells_str : Try.prog.cellsOf 9 = 1 := by kernel_rfl
/-- A row out of its elements. -/
theorem rows_from {α : Type} [Inhabited α] {en : α → List Value} {sz : Nat} (hsz : ∀ x, (en x).length = sz) (hp0 : 0 < sz) {W : World} {ad : Addr} {len : Nat} {Pr : α → Prop}
    (each : ∀ i, i < len → ∃ f : α, (∀ r v, (en f)[r]? = some v → W.cell? (ad.add (i * sz + r)) = some v) ∧ Pr f) : ∃ xs : List α, xs.length = len ∧ CRow W (some ad) (xs.flatMap en) ∧ ∀ f ∈ xs, Pr f := by
  obtain ⟨F, hF⟩ := choose_lt each
  have hlen : ((List.range len).map F).length = len := by simp
  have hget : ∀ j (hj : j < ((List.range len).map F).length), ((List.range len).map F)[j] = F j := by intro j hj; simp
  refine ⟨(List.range len).map F, hlen, ?_, ?_⟩
  · intro hp
    rw [flat_len hsz, hlen] at hp
    have hl0 : 0 < len := Nat.pos_of_ne_zero fun e => by rw [e] at hp; simp at hp
    have h00 : ∃ v, (en (F 0))[0]? = some v := by
      have : 0 < (en (F 0)).length := by rw [hsz]; exact hp0
      exact ⟨_, List.getElem?_eq_getElem this⟩
    obtain ⟨v0, hv0⟩ := h00
    have c0 := (hF 0 hl0).1 0 v0 hv0
    have hs : ad.spot = none := by
      have := World.cell?_spot c0
      simpa [Addr.add] using this
    obtain ⟨b, off, spot⟩ := ad
    simp only at hs
    subst hs
    have hadd : ∀ i, (⟨b, off, none⟩ : Addr).add i = ⟨b, off + i, none⟩ := by intro i; cases i <;> simp [Addr.add]
    refine ⟨b, off, rfl, ?_, fun i v hv => ?_⟩
    · by_cases hb : b < W.heap.size
      · exact hb
      · unfold World.cell? at c0
        rw [hadd, Array.getElem?_eq_none (by simpa using hb)] at c0
        simp at c0
    · have hi : i < (((List.range len).map F).flatMap en).length := (List.getElem?_eq_some_iff.1 hv).1
      rw [flat_len hsz, hlen] at hi
      have hq : i / sz < len := Nat.div_lt_of_lt_mul (by rwa [Nat.mul_comm] at hi)
      have hr := Nat.mod_lt i hp0
      have ei : i = i / sz * sz + i % sz := by rw [Nat.mul_comm]; exact (Nat.div_add_mod i sz).symm
      have hj : i / sz < ((List.range len).map F).length := by rw [hlen]; exact hq
      have l1 := flat_get hsz ((List.range len).map F) (i / sz) hj (i % sz) hr
      rw [hget _ hj, ← ei] at l1
      have := (hF (i / sz) hq).1 (i % sz) v (by rw [← l1]; exact hv)
      rw [← ei, hadd] at this
      exact this
  · intro f hf
    obtain ⟨j, hj, rfl⟩ := List.mem_map.1 hf
    exact (hF j (by simpa using hj)).2
theorem ics_flats (xs : List Int) : ics xs = xs.flatMap fun x => [.int .i64 x] := by
  unfold ics
  induction xs with
  | nil => rfl
  | cons x xs ih => simp [ih]
set_option maxRecDepth 100000 in
theorem open_row {H : Type} {enc : TypeId × Value → H} {W : World} {base : Nat} {spare : Nat → Bool} {held : Bool} {fuel : Nat} {cs : List Value} {x : DataW H × List MemPlace}
    (h : DataW.trod enc Try.prog W base spare held fuel 24 cs = some x) : ∃ s : SR, cs = [srv s] ∧ CRow W s.loc (ics s.row) ∧ s.row.length ≤ 9223372036854775807 := by
  rcases open_slice Try.underlying24 h with ⟨rfl, _⟩ | ⟨ad, len, cap, m, n, D, Pl, rfl, hb, hl, hm, hmm, _, hx⟩
  · exact ⟨⟨none, [], 0⟩, rfl, fun h => by simp [ics] at h, by simp⟩
  · have hlm : len ≤ m := by rw [hmm]; split <;> omega
    have each : ∀ i, i < len → ∃ f : Int, (∀ r v, ([.int .i64 f] : List Value)[r]? = some v → W.cell? (ad.add (i * 1 + r)) = some v) ∧ True := by
      intro i hi
      obtain ⟨cs', h1, h2⟩ := hx i (by omega)
      rw [cells_int] at h1
      obtain ⟨_, hlen, hcell⟩ := World.cells?_some h1
      obtain ⟨q, e2, _, z2⟩ := DataW.trod_int Try.underlying3 h2
      have c0 := hcell 0 (by omega)
      rw [add_add] at c0
      subst e2
      refine ⟨q, fun r v hv => ?_, trivial⟩
      match r, hv with
      | 0, hv => simp at hv; subst hv; simpa using c0
    obtain ⟨xs, hxl, hrow, _⟩ := rows_from (en := fun x => [.int .i64 x]) (fun _ => rfl) (by decide) each
    rw [← ics_flats] at hrow
    exact ⟨⟨some ad, xs, cap⟩, by simp only [srv]; rw [hxl], hrow, by show xs.length ≤ _; rw [hxl]; unfold maxLen at hm; omega⟩
theorem svs_flat (ss : List SR) : svs ss = ss.flatMap fun s => [srv s] := by
  unfold svs
  induction ss with
  | nil => rfl
  | cons x xs ih => simp [ih]
end Go.Proofs.Ytendbipfmgnjkaa
