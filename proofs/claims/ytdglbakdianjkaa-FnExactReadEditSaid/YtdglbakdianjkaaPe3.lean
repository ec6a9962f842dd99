/- Texts of ours, laid one behind the other: OpenM, EdC, EdB, GrwB, EdD, ReadVarM, ReadVar, ReadShort, EdE. -/
import Derived.Test.YtdglbakdianjkaaPe2
import Derived.Deep.Slices
import Derived.Deep.Strs
import Derived.ChangeArms
import Derived.ChangeSame
import Derived.WideShapes
import Derived.OpenShut
import Derived.BigQuiet
import Derived.OrdersHeld
import Derived.Deep.RegionHeld3
import Derived.PlainAid
import Derived.Deep.LoopGhost
import Derived.Deep.RegionWith
import Derived.Deep.QuietTactic
import Derived.Deep.DrawnRows
import Derived.Test.YtdglbakdianjkaaShelf
/- OpenM: Rows of numbers, of rows of numbers, and of texts, that came in. -/
namespace Go.Proofs.Ytdglbakdianjkaa
set_option maxRecDepth 100000
open Go.RowKit Go.Deep Go.ChangeShapes Go.WideShapes

theorem cells_int : Try.prog.cellsOf 3 = 1 := by kernel_rfl
theorem cells_ints : Try.prog.cellsOf 58 = 1 := by kernel_rfl
theorem cells_str : Try.prog.cellsOf 9 = 1 := by kernel_rfl
/-- A row out of its elements. -/
theorem rows_from {α : Type} [Inhabited α] {en : α → List Value} {sz : Nat} (hsz : ∀ x, (en x).length = sz) (hp0 : 0 < sz) {W : World} {ad : Addr} {len : Nat} {Pr : α → Prop}
    (each : ∀ i, i < len → ∃ f : α, (∀ r v, (en f)[r]? = some v → W.cell? (ad.add (i * sz + r)) = some v) ∧ Pr f) : ∃ xs : List α, xs.length = len ∧ CRow W (some ad) (xs.flatMap en) ∧ ∀ f ∈ xs, Pr f := by
  obtain ⟨F, hF⟩ := choose_lt each
  have hlen : ((List.range len).map F).length = len := by simp
  have hget : ∀ j (hj : j < ((List.range len).map F).length), ((List.range len).map F)[j] = F j := by intro j hj; simp
  refine ⟨(List.range len).map F, hlen, ?_, ?_⟩
  · intro hp
    rw [flat_len hsz, hlen] at hp
    have hl0 : 0 < len := Nat.pos_of_ne_zero fun e => by rw [e] at hp; simp at hp
    have h00 : ∃ v, (en (F 0))[0]? = some v := by
      have : 0 < (en (F 0)).length := by rw [hsz]; exact hp0
      exact ⟨_, List.getElem?_eq_getElem this⟩
    obtain ⟨v0, hv0⟩ := h00
    have c0 := (hF 0 hl0).1 0 v0 hv0
    have hs : ad.spot = none := by
      have := World.cell?_spot c0
      simpa [Addr.add] using this
    obtain ⟨b, off, spot⟩ := ad
    simp only at hs
    subst hs
    have hadd : ∀ i, (⟨b, off, none⟩ : Addr).add i = ⟨b, off + i, none⟩ := by intro i; cases i <;> simp [Addr.add]
    refine ⟨b, off, rfl, ?_, fun i v hv => ?_⟩
    · by_cases hb : b < W.heap.size
      · exact hb
      · unfold World.cell? at c0
        rw [hadd, Array.getElem?_eq_none (by simpa using hb)] at c0
        simp at c0
    · have hi : i < (((List.range len).map F).flatMap en).length := (List.getElem?_eq_some_iff.1 hv).1
      rw [flat_len hsz, hlen] at hi
      have hq : i / sz < len := Nat.div_lt_of_lt_mul (by rwa [Nat.mul_comm] at hi)
      have hr := Nat.mod_lt i hp0
      have ei : i = i / sz * sz + i % sz := by rw [Nat.mul_comm]; exact (Nat.div_add_mod i sz).symm
      have hj : i / sz < ((List.range len).map F).length := by rw [hlen]; exact hq
      have l1 := flat_get hsz ((List.range len).map F) (i / sz) hj (i % sz) hr
      rw [hget _ hj, ← ei] at l1
      have := (hF (i / sz) hq).1 (i % sz) v (by rw [← l1]; exact hv)
      rw [← ei, hadd] at this
      exact this
  · intro f hf
    obtain ⟨j, hj, rfl⟩ := List.mem_map.1 hf
    exact (hF j (by simpa using hj)).2
theorem ics_flats (xs : List Int) : ics xs = xs.flatMap fun x => [.int .i64 x] := by
  unfold ics
  induction xs with
  | nil => rfl
  | cons x xs ih => simp [ih]
set_option maxRecDepth 100000 in
theorem open_row {H : Type} {enc : TypeId × Value → H} {W : World} {base : Nat} {spare : Nat → Bool} {held : Bool} {fuel : Nat} {cs : List Value} {x : DataW H × List MemPlace}
    (h : DataW.trod enc Try.prog W base spare held fuel 58 cs = some x) : ∃ s : SR, cs = [srv s] ∧ CRow W s.loc (ics s.row) ∧ s.row.length ≤ 9223372036854775807 := by
  rcases open_slice Try.underlying58 h with ⟨rfl, _⟩ | ⟨ad, len, cap, m, n, D, Pl, rfl, hb, hl, hm, hmm, _, hx⟩
  · exact ⟨⟨none, [], 0⟩, rfl, fun h => by simp [ics] at h, by simp⟩
  · have hlm : len ≤ m := by rw [hmm]; split <;> omega
    have each : ∀ i, i < len → ∃ f : Int, (∀ r v, ([.int .i64 f] : List Value)[r]? = some v → W.cell? (ad.add (i * 1 + r)) = some v) ∧ True := by
      intro i hi
      obtain ⟨cs', h1, h2⟩ := hx i (by omega)
      rw [cells_int] at h1
      obtain ⟨_, hlen, hcell⟩ := World.cells?_some h1
      obtain ⟨q, e2, _, z2⟩ := DataW.trod_int Try.underlying3 h2
      have c0 := hcell 0 (by omega)
      rw [add_add] at c0
      subst e2
      refine ⟨q, fun r v hv => ?_, trivial⟩
      match r, hv with
      | 0, hv => simp at hv; subst hv; simpa using c0
    obtain ⟨xs, hxl, hrow, _⟩ := rows_from (en := fun x => [.int .i64 x]) (fun _ => rfl) (by decide) each
    rw [← ics_flats] at hrow
    exact ⟨⟨some ad, xs, cap⟩, by simp only [srv]; rw [hxl], hrow, by show xs.length ≤ _; rw [hxl]; unfold maxLen at hm; omega⟩
theorem svs_flat (ss : List SR) : svs ss = ss.flatMap fun s => [srv s] := by
  unfold svs
  induction ss with
  | nil => rfl
  | cons x xs ih => simp [ih]
end Go.Proofs.Ytdglbakdianjkaa
/- EdC: Records that came in, and what the laws do with them: their size, a copy, a comparison. -/
namespace Go.Proofs.Ytdglbakdianjkaa
open Go.RowKit Go.Deep Go.ChangeShapes Go.WideShapes
attribute [local go_sem ↓] Go.wp_at_zero Go.wp_at_succ

/-- A record whose numbers are the machine's, and whose texts it can count. -/
def EdFit (e : EM) : Prop := e.path.size ≤ 9223372036854775807 ∧ e.dest.size ≤ 9223372036854775807 ∧ (Lit.int .i64 e.kind).wf = true ∧ (Lit.int .i64 e.num).wf = true ∧ (Lit.int .i64 e.who).wf = true
theorem cells_edit : Try.prog.cellsOf 33 = 5 := by kernel_rfl
theorem cells_intE : Try.prog.cellsOf 3 = 1 := by kernel_rfl
theorem cells_strE : Try.prog.cellsOf 9 = 1 := by kernel_rfl
set_option maxRecDepth 100000 in
theorem open_edit_cells {H : Type} {enc : TypeId × Value → H} {W : World} {base : Nat} {spare : Nat → Bool} {held : Bool} {n : Nat} {cs : List Value} {x : DataW H × List MemPlace} (h : DataW.trod enc Try.prog W base spare held n 33 cs = some x) :
    ∃ e : EM, cs = ecells e ∧ EdFit e := by
  obtain ⟨xs, k, _, rfl, hl, hlen, hf⟩ := DataW.trod_struct Try.underlying33 h
  rw [cells_edit] at hl
  match xs, hlen, cs, hl with
  | [y0, y1, y2, y3, y4], _, [v0, v1, v2, v3, v4], _ =>
    have g0 := hf 0 _ rfl
    have g1 := hf 1 _ rfl
    have g2 := hf 2 _ rfl
    have g3 := hf 3 _ rfl
    have g4 := hf 4 _ rfl
    simp [cells_strE, cells_intE] at g0 g1 g2 g3 g4
    obtain ⟨q0, e0, _, z0⟩ := DataW.trod_int Try.underlying3 g0
    obtain ⟨s1, e1, _, z1⟩ := DataW.trod_string Try.underlying9 g1
    obtain ⟨s2, e2, _, z2⟩ := DataW.trod_string Try.underlying9 g2
    obtain ⟨q3, e3, _, z3⟩ := DataW.trod_int Try.underlying3 g3
    obtain ⟨q4, e4, _, z4⟩ := DataW.trod_int Try.underlying3 g4
    simp only [List.cons.injEq, and_true] at e0 e1 e2 e3 e4
    subst e0 e1 e2 e3 e4
    unfold maxLen at z1 z2
    exact ⟨⟨q0, s1, s2, q3, q4⟩, rfl, by simpa using z1, by simpa using z2, z0, z3, z4⟩
set_option maxRecDepth 100000 in
theorem open_edit {H : Type} {enc : TypeId × Value → H} {W : World} {r : Reach} {b0 base : Nat} {spare : Nat → Bool} {held : Bool} {v : Value} {d : DataW H} {p : List MemPlace}
    (hv : Value.okWide Try.prog W r b0 33 v) (h : DataW.Trod enc Try.prog W base spare held 33 v d p) : ∃ e : EM, v = ev e ∧ EdFit e := by
  obtain ⟨cs, rfl, hsz⟩ := okWide_struct Try.underlying33 hv
  obtain ⟨fuel, h⟩ := h
  obtain ⟨f, e, hf⟩ := open_edit_cells h
  refine ⟨f, ?_, hf⟩
  have : cs.toList = ecells f := by simpa [Value.cells] using e
  rw [show cs = (ecells f).toArray by rw [← this]]
  rfl
set_option maxRecDepth 100000 in
theorem szEdit_any (e : EM) (left : Int) (w : World) (h0 : 0 ≤ left) (h1 : left ≤ 1048576) (hf : EdFit e) :
    Calls Try.prog 15 #[ev e, .int .i64 left] w fun r w' => (∃ q : Int, r = .returned (.int .i64 q) ∧ -1 ≤ q ∧ (0 ≤ q → q + e.path.size + e.dest.size = left)) ∧ Below w.heap.size w w' := by
  obtain ⟨kind, path, dest, num, who⟩ := e
  obtain ⟨f1, f2, _⟩ := hf
  dsimp only at *
  by_cases c1 : left - path.size < 0
  · go_enter Try.func15, Try.ntmps15
    go_wp2_with fail
    go_ret
    exact ⟨⟨-1, rfl, by omega, by omega⟩, (Below.refl _ _).alloc (Nat.le_refl _) _⟩
  · by_cases c2 : left - path.size - dest.size < 0
    · go_enter Try.func15, Try.ntmps15
      go_wp2_with fail
      go_ret
      exact ⟨⟨-1, rfl, by omega, by omega⟩, (Below.refl _ _).alloc (Nat.le_refl _) _⟩
    · go_enter Try.func15, Try.ntmps15
      go_wp2_with fail
      go_ret
      exact ⟨⟨left - path.size - dest.size, rfl, by omega, by omega⟩, (Below.refl _ _).alloc (Nat.le_refl _) _⟩
set_option maxRecDepth 100000 in
theorem toEdit_any (e : EM) (w : World) : Calls Try.prog 16 #[ev e] w fun r w' => r = .returned (ev e) ∧ Below w.heap.size w w' := by
  go_enter Try.func16, Try.ntmps16
  go_wp2_with fail
  refine bodyPost_ret (v := ev e) (by simp [results, Try.results16, go_sem]) rfl ⟨rfl, ?_⟩
  exact (((Below.refl _ _).alloc (Nat.le_refl _) _).alloc (by simp) _).alloc (by simp; omega) _
set_option maxRecDepth 100000 in
theorem eqEdit_same (e : EM) (w : World) : Calls Try.prog 18 #[ev e, ev e] w fun r w' => r = .returned (.bool true) ∧ Below w.heap.size w w' := by
  go_enter Try.func18, Try.ntmps18
  go_wp2_with fail
  go_ret
  exact ⟨rfl, ((Below.refl _ _).alloc (Nat.le_refl _) _).alloc (by simp) _⟩
end Go.Proofs.Ytdglbakdianjkaa
/- EdB: The model's EditOk. -/
namespace Go.Proofs.Ytdglbakdianjkaa
open Go.RowKit BigFrame
attribute [local go_sem ↓] Go.wp_at_zero Go.wp_at_succ

set_option maxRecDepth 100000 in
set_option maxHeartbeats 2000000 in
theorem specEditOk (e : EM) (w : World) (hf : EFit e) : Calls Try.prog 11 #[ev e] w fun r w' => r = .returned (.bool (editOk e)) ∧ Below w.heap.size w w' := by
  have hnp := fun W => specNamed e.path W hf.1
  have hnt := fun W => specNamed e.dest W hf.2
  obtain ⟨R, hR⟩ : ∃ R, R = editOk e := ⟨_, rfl⟩
  rw [← hR]
  obtain ⟨bad, hbad⟩ : ∃ b, b = pathBad e := ⟨_, rfl⟩
  have hRR : R = (inI e.kind 1 10 && (if e.kind = 10 then (e.path.toList == [47]) && (e.dest.toList == []) && (e.num == 0) && (e.who == 0) else !bad && numsOk e)) := by rw [hR, hbad]; rfl
  obtain ⟨np, hnp'⟩ : ∃ b, b = named e.path := ⟨_, rfl⟩
  obtain ⟨nt, hnt'⟩ : ∃ b, b = named e.dest := ⟨_, rfl⟩
  rw [← hnp'] at hnp
  rw [← hnt'] at hnt
  unfold pathBad at hbad
  rw [← hnp', ← hnt'] at hbad
  unfold numsOk at hRR
  have HR := Shut.mk hRR
  have HNPC := Shut.mk hnp
  have HNTC := Shut.mk hnt
  have HBD := Shut.mk hbad
  clear hf hnp hnt hR hbad hnp' hnt' hRR
  obtain ⟨kind, path, dest, num, who⟩ := e
  dsimp only at *
  by_cases h1 : inI kind 1 10 = true
  case neg =>
    have HF : Shut (R = false) := ⟨by rw [HR.out]; simp [h1]⟩
    have HI := Shut.mk (fun W => isInI kind 1 10 W false (by simpa using h1))
    clear h1 HR
    go_enter Try.func11, Try.ntmps11
    go_wp2_with (go_at_call 25; refine (HI.out _).mono ?_; rintro r w1 ⟨rfl, rfl⟩)
    go_ret
    exact ⟨by rw [HF.out]; rfl, (Below.refl _ _).alloc (Nat.le_refl _) _⟩
  have HI := Shut.mk (fun W => isInI kind 1 10 W true h1)
  have HKB := Shut.mk (inI_iff.1 h1)
  have HIN := Shut.mk (fun x a b W => isInI x a b W _ rfl)
  rw [h1] at HR
  clear h1
  by_cases h10 : kind = 10
  · rw [if_pos h10] at HR
    subst h10
    go_enter Try.func11, Try.ntmps11
    go_wp2_with (go_at_call 25; refine (HI.out _).mono ?_; rintro r w1 ⟨rfl, rfl⟩)
    all_goals
      go_ret
      exact ⟨by rw [HR.out]; simp [*], (Below.refl _ _).alloc (Nat.le_refl _) _⟩
  · rw [if_neg h10] at HR
    have h10' : (kind == 10) = false := by simp [h10]
    obtain ⟨st, hst⟩ : ∃ b, b = ((kind == 5) || (kind == 6)) := ⟨_, rfl⟩
    obtain ⟨pr, hpr⟩ : ∃ b, b = (path.toList == [47]) := ⟨_, rfl⟩
    obtain ⟨k3, hk3⟩ : ∃ b, b = (kind == 3) := ⟨_, rfl⟩
    obtain ⟨te, hte⟩ : ∃ b, b = (dest.toList == []) := ⟨_, rfl⟩
    have HBD' : Shut (bad = ((!np && !(st && pr)) || (k3 != nt) || (!k3 && !te))) := ⟨by
      rw [HBD.out, ← hst, ← hpr, ← hk3]
      have e1 : (kind != 3) = !k3 := by rw [hk3]; rfl
      have e2 : (dest.toList != []) = !te := by rw [hte]; rfl
      rw [e1, e2]⟩
    have HST := Shut.mk hst
    go_enter Try.func11, Try.ntmps11
    go_upto_region 5 with (go_at_call 25; refine (HI.out _).mono ?_; rintro r w1 ⟨rfl, rfl⟩)
    refine wp_shade (fun W => Below w.heap.size w W ∧ WCells W w.heap.size [.int .i64 kind, .string path, .string dest, .int .i64 num, .int .i64 who]) ⟨(Below.refl _ _).alloc (Nat.le_refl _) _, wcells_new w #[.int .i64 kind, .string path, .string dest, .int .i64 num, .int .i64 who] 25⟩ ?_
    intro W hW
    have HW := Shut.mk hW
    have c0 := (hW.2.2 0 _ rfl).1
    have lw := hW.2.1
    have g0 : ∀ X : Grow W, X.val.cell? ⟨w.heap.size, 0, none⟩ = some (.int .i64 kind) := fun X => X.cell c0 lw
    have g1 : ∀ X : Grow W, X.val.cell? ⟨w.heap.size, 1, none⟩ = some (.string path) := fun X => X.cell (hW.2.2 1 _ rfl).1 lw
    have g2 : ∀ X : Grow W, X.val.cell? ⟨w.heap.size, 2, none⟩ = some (.string dest) := fun X => X.cell (hW.2.2 2 _ rfl).1 lw
    have HNP := Shut.mk (fun X => calls_grow (w := W) (fun W' (_ : Below W.heap.size W W') => HNPC.out W') X)
    have HNT := Shut.mk (fun X => calls_grow (w := W) (fun W' (_ : Below W.heap.size W W') => HNTC.out W') X)
    clear hW HI h10
    rw [HBD'.out] at HR
    clear HBD HBD'
    go_upto_region 5 with fail
    go_cut [3] from 29 to 36 (fun b wx => b = .bool st ∧ wx = W)
    case first =>
      by_cases h5 : kind = 5
      · have h5' : (kind == 5) = true := by simp [h5]
        have HSE : Shut (st = true) := ⟨by rw [HST.out]; simp [h5]⟩
        clear h5
        go_wp2_with fail
        go_meet
        case rel => exact ⟨by rw [HSE.out], rfl⟩
      · have h5' : (kind == 5) = false := by simp [h5]
        have HSE : Shut (st = (kind == 6)) := ⟨by rw [HST.out]; simp [h5]⟩
        clear h5
        go_wp2_with fail
        go_meet
        case rel => exact ⟨by rw [HSE.out], rfl⟩
    case rest =>
      obtain ⟨rfl, rfl⟩ := hcut
      have HSTT := HST
      have hpr' : (path.toList == [47]) = pr := hpr.symm
      have hk3' : (kind == 3) = k3 := hk3.symm
      have hk3n : (kind != 3) = !k3 := by rw [hk3]; rfl
      have hte' : (dest.toList == []) = te := hte.symm
      have hten : (dest.toList != []) = !te := by rw [hte]; rfl
      clear hpr hk3 hte hst c0
      go_upto_region 6 with fail
      go_cut [68] from 37 to 68 (fun b wx => b = .bool ((!np && !(st && pr)) || (k3 != nt) || (!k3 && !te)) ∧ Shut (Below w.heap.size w wx ∧ WCells wx w.heap.size [.int .i64 kind, .string path, .string dest, .int .i64 num, .int .i64 who]))
      case first =>
        clear HR HST HSTT
        cases np with
        | true =>
          cases k3 with
          | true =>
            cases nt with
            | true =>
              refine wp_region_grow (by kernel_rfl) (by kernel_rfl) ?_
              repeat (go_big_quiet_step (first | (go_at_call 26; first | with_reducible exact HNP.out _ | with_reducible exact HNT.out _)))
              refine wpQuiet_nil ?_
              rintro _ ⟨X, rfl⟩
              go_wp2_with fail
              go_meet
              case rel => exact ⟨rfl, ⟨HW.out.1.trans (X.bel.mono HW.out.1.size), HW.out.2.grow X.bel⟩⟩
            | false =>
              refine wp_region_grow (by kernel_rfl) (by kernel_rfl) ?_
              repeat (go_big_quiet_step (first | (go_at_call 26; first | with_reducible exact HNP.out _ | with_reducible exact HNT.out _)))
              refine wpQuiet_nil ?_
              rintro _ ⟨X, rfl⟩
              go_wp2_with fail
              go_meet
              case rel => exact ⟨rfl, ⟨HW.out.1.trans (X.bel.mono HW.out.1.size), HW.out.2.grow X.bel⟩⟩
          | false =>
            cases nt with
            | true =>
              refine wp_region_grow (by kernel_rfl) (by kernel_rfl) ?_
              repeat (go_big_quiet_step (first | (go_at_call 26; first | with_reducible exact HNP.out _ | with_reducible exact HNT.out _)))
              refine wpQuiet_nil ?_
              rintro _ ⟨X, rfl⟩
              go_wp2_with fail
              go_meet
              case rel => exact ⟨rfl, ⟨HW.out.1.trans (X.bel.mono HW.out.1.size), HW.out.2.grow X.bel⟩⟩
            | false =>
              cases te with
              | true =>
                refine wp_region_grow (by kernel_rfl) (by kernel_rfl) ?_
                repeat (go_big_quiet_step (first | (go_at_call 26; first | with_reducible exact HNP.out _ | with_reducible exact HNT.out _)))
                refine wpQuiet_nil ?_
                rintro _ ⟨X, rfl⟩
                go_wp2_with fail
                go_meet
                case rel => exact ⟨rfl, ⟨HW.out.1.trans (X.bel.mono HW.out.1.size), HW.out.2.grow X.bel⟩⟩
              | false =>
                refine wp_region_grow (by kernel_rfl) (by kernel_rfl) ?_
                repeat (go_big_quiet_step (first | (go_at_call 26; first | with_reducible exact HNP.out _ | with_reducible exact HNT.out _)))
                refine wpQuiet_nil ?_
                rintro _ ⟨X, rfl⟩
                go_wp2_with fail
                go_meet
                case rel => exact ⟨rfl, ⟨HW.out.1.trans (X.bel.mono HW.out.1.size), HW.out.2.grow X.bel⟩⟩
        | false =>
          cases st with
          | true =>
            cases pr with
            | true =>
              cases k3 with
              | true =>
                cases nt with
                | true =>
                  refine wp_region_grow (by kernel_rfl) (by kernel_rfl) ?_
                  repeat (go_big_quiet_step (first | (go_at_call 26; first | with_reducible exact HNP.out _ | with_reducible exact HNT.out _)))
                  refine wpQuiet_nil ?_
                  rintro _ ⟨X, rfl⟩
                  go_wp2_with fail
                  go_meet
                  case rel => exact ⟨rfl, ⟨HW.out.1.trans (X.bel.mono HW.out.1.size), HW.out.2.grow X.bel⟩⟩
                | false =>
                  refine wp_region_grow (by kernel_rfl) (by kernel_rfl) ?_
                  repeat (go_big_quiet_step (first | (go_at_call 26; first | with_reducible exact HNP.out _ | with_reducible exact HNT.out _)))
                  refine wpQuiet_nil ?_
                  rintro _ ⟨X, rfl⟩
                  go_wp2_with fail
                  go_meet
                  case rel => exact ⟨rfl, ⟨HW.out.1.trans (X.bel.mono HW.out.1.size), HW.out.2.grow X.bel⟩⟩
              | false =>
                cases nt with
                | true =>
                  refine wp_region_grow (by kernel_rfl) (by kernel_rfl) ?_
                  repeat (go_big_quiet_step (first | (go_at_call 26; first | with_reducible exact HNP.out _ | with_reducible exact HNT.out _)))
                  refine wpQuiet_nil ?_
                  rintro _ ⟨X, rfl⟩
                  go_wp2_with fail
                  go_meet
                  case rel => exact ⟨rfl, ⟨HW.out.1.trans (X.bel.mono HW.out.1.size), HW.out.2.grow X.bel⟩⟩
                | false =>
                  cases te with
                  | true =>
                    refine wp_region_grow (by kernel_rfl) (by kernel_rfl) ?_
                    repeat (go_big_quiet_step (first | (go_at_call 26; first | with_reducible exact HNP.out _ | with_reducible exact HNT.out _)))
                    refine wpQuiet_nil ?_
                    rintro _ ⟨X, rfl⟩
                    go_wp2_with fail
                    go_meet
                    case rel => exact ⟨rfl, ⟨HW.out.1.trans (X.bel.mono HW.out.1.size), HW.out.2.grow X.bel⟩⟩
                  | false =>
                    refine wp_region_grow (by kernel_rfl) (by kernel_rfl) ?_
                    repeat (go_big_quiet_step (first | (go_at_call 26; first | with_reducible exact HNP.out _ | with_reducible exact HNT.out _)))
                    refine wpQuiet_nil ?_
                    rintro _ ⟨X, rfl⟩
                    go_wp2_with fail
                    go_meet
                    case rel => exact ⟨rfl, ⟨HW.out.1.trans (X.bel.mono HW.out.1.size), HW.out.2.grow X.bel⟩⟩
            | false =>
              refine wp_region_grow (by kernel_rfl) (by kernel_rfl) ?_
              repeat (go_big_quiet_step (first | (go_at_call 26; first | with_reducible exact HNP.out _ | with_reducible exact HNT.out _)))
              refine wpQuiet_nil ?_
              rintro _ ⟨X, rfl⟩
              go_wp2_with fail
              go_meet
              case rel => exact ⟨rfl, ⟨HW.out.1.trans (X.bel.mono HW.out.1.size), HW.out.2.grow X.bel⟩⟩
          | false =>
            refine wp_region_grow (by kernel_rfl) (by kernel_rfl) ?_
            repeat (go_big_quiet_step (first | (go_at_call 26; first | with_reducible exact HNP.out _ | with_reducible exact HNT.out _)))
            refine wpQuiet_nil ?_
            rintro _ ⟨X, rfl⟩
            go_wp2_with fail
            go_meet
            case rel => exact ⟨rfl, ⟨HW.out.1.trans (X.bel.mono HW.out.1.size), HW.out.2.grow X.bel⟩⟩
      case rest =>
        obtain ⟨rfl, hV⟩ := hcut
        clear g0 g1 g2 HNP HNT HNPC HNTC HW HST HSTT lw hpr' hk3' hk3n hte' hten
        generalize ((!np && !(st && pr)) || (k3 != nt) || (!k3 && !te)) = bd at *
        have c0 := (hV.out.2.2 0 _ rfl).1
        have c3 := (hV.out.2.2 3 _ rfl).1
        have c4 := (hV.out.2.2 4 _ rfl).1
        cases bd with
        | true =>
          have HF : Shut (R = false) := ⟨by rw [HR.out]; rfl⟩
          clear HR
          go_wp2_with fail
          go_ret
          exact ⟨by rw [HF.out]; rfl, hV.out.1⟩
        | false =>
          by_cases k5 : kind = 5
          · have HRR : Shut (R = (inI num 1 3 && (who == 0))) := ⟨by rw [HR.out]; simp [k5]⟩
            subst k5
            clear HR
            go_wp2_with (go_at_call 25; refine (HIN.out _ _ _ _).mono ?_; rintro r w1 ⟨rfl, rfl⟩)
            all_goals
              go_ret
              exact ⟨by rw [HRR.out]; simp [*], hV.out.1⟩
          by_cases k6 : kind = 6
          · have HRR : Shut (R = (inI num 0 1000 && (who == 0))) := ⟨by rw [HR.out]; simp [k6]⟩
            subst k6
            clear HR
            go_wp2_with (go_at_call 25; refine (HIN.out _ _ _ _).mono ?_; rintro r w1 ⟨rfl, rfl⟩)
            all_goals
              go_ret
              exact ⟨by rw [HRR.out]; simp [*], hV.out.1⟩
          by_cases k7 : kind = 7
          · have HRR : Shut (R = (inI num 1 200 && (who == 0))) := ⟨by rw [HR.out]; simp [k7]⟩
            subst k7
            clear HR
            go_wp2_with (go_at_call 25; refine (HIN.out _ _ _ _).mono ?_; rintro r w1 ⟨rfl, rfl⟩)
            all_goals
              go_ret
              exact ⟨by rw [HRR.out]; simp [*], hV.out.1⟩
          by_cases k2 : kind = 2
          · have HRR : Shut (R = ((num == 0) && inI who 1 9)) := ⟨by rw [HR.out]; simp [k2]⟩
            subst k2
            clear HR
            go_wp2_with (go_at_call 25; refine (HIN.out _ _ _ _).mono ?_; rintro r w1 ⟨rfl, rfl⟩)
            all_goals
              go_ret
              exact ⟨by rw [HRR.out]; simp [*], hV.out.1⟩
          by_cases k9 : kind = 9
          · have HRR : Shut (R = ((num == 0) && inI who 1 9)) := ⟨by rw [HR.out]; simp [k9]⟩
            subst k9
            clear HR
            go_wp2_with (go_at_call 25; refine (HIN.out _ _ _ _).mono ?_; rintro r w1 ⟨rfl, rfl⟩)
            all_goals
              go_ret
              exact ⟨by rw [HRR.out]; simp [*], hV.out.1⟩
          have HRR : Shut (R = ((num == 0) && (who == 0))) := ⟨by rw [HR.out]; simp [k5, k6, k7, k2, k9]⟩
          clear HR
          have j5 : (kind == 5) = false := by simp [k5]
          have j6 : (kind == 6) = false := by simp [k6]
          have j7 : (kind == 7) = false := by simp [k7]
          have j2 : (kind == 2) = false := by simp [k2]
          have j9 : (kind == 9) = false := by simp [k9]
          clear k5 k6 k7 k2 k9
          go_wp2_with (go_at_call 25; refine (HIN.out _ _ _ _).mono ?_; rintro r w1 ⟨rfl, rfl⟩)
          all_goals
            go_ret
            exact ⟨by rw [HRR.out]; simp [*], hV.out.1⟩
end Go.Proofs.Ytdglbakdianjkaa
/- GrwB: A region that draws its order, some of whose operations make memory: what answers one value in every later world is taken first, calls that only make memory too. The way of the proof is that of the library's Derived.OrdersHeld, which is imported; the class of worlds is ours. -/
namespace Go.Proofs.Ytdglbakdianjkaa
open Go.RowKit

/-- A later world: more memory, what was there untouched. -/
def Later (w w' : World) : Prop := Below w.heap.size w w'
theorem Later.refl (w : World) : Later w w := Below.refl _ _
theorem Later.trans {a b c : World} (h : Later a b) (g : Later b c) : Later a c := Below.trans h (Below.mono g (Below.size h))
section
variable {P : Program} {ops : Array Oper} {Q : Exit → Act → World → Prop} {md : Region.Mode}
/-- Whatever order is picked from here on, in whatever later world. -/
def wpL (P : Program) (md : Region.Mode) (ops : Array Oper) (Q : Exit → Act → World → Prop) : Nat → Array Bool → Act → World → Prop
  | 0, l, a, w => Region.ready md ops l = [] ∧ ∀ x, Later w x → Q .normal a x
  | n + 1, l, a, w => ∀ x, Later w x → (Region.ready md ops l = [] → Q .normal a x) ∧
      ∀ i ∈ Region.ready md ops l, wpOp P ops Q i (fun a' y => Later x y ∧ wpL P md ops Q n (l.setIfInBounds i true) a' y) a x
theorem wpL_later : ∀ (n : Nat) (l : Array Bool) (a : Act) (w y : World), Later w y → wpL P md ops Q n l a w → wpL P md ops Q n l a y
  | 0, _, _, _, _, hy, h => ⟨h.1, fun x hx => h.2 x (hy.trans hx)⟩
  | _ + 1, _, _, _, _, hy, h => fun x hx => h x (hy.trans hx)
theorem wpAny_of_L : ∀ (n : Nat) (l : Array Bool) (a : Act) (w : World), wpL P md ops Q n l a w → wpAny P md ops Q n l a w
  | 0, _, _, w, h => ⟨h.1, h.2 w (Later.refl w)⟩
  | n + 1, _, _, w, h => ⟨(h w (Later.refl w)).1, fun i hi => wpOp_mono (fun a' y hh => wpAny_of_L n _ a' y hh.2) ((h w (Later.refl w)).2 i hi)⟩
/-- One value, in every later world; a call may make memory. -/
def YL (P : Program) (ops : Array Oper) (o : Oper) (v : Value) (a : Act) (w : World) : Prop :=
  (Region.wanted o (yielded ops a.tmps) = true ∧ ∀ x, Later w x → o.quietAt P a (Later x) x v) ∨ (Region.wanted o (yielded ops a.tmps) = false ∧ v = undef)
theorem YL.later {o : Oper} {v : Value} {a : Act} {w y : World} (h : YL P ops o v a w) (hy : Later w y) : YL P ops o v a y :=
  h.imp (fun q => ⟨q.1, fun x hx => q.2 x (hy.trans hx)⟩) id
theorem YL.same {o : Oper} {v : Value} {a b : Act} {w : World} (h : YL P ops o v a w) (he : execOp b.eval o = execOp a.eval o) (hw : Region.wanted o (yielded ops b.tmps) = Region.wanted o (yielded ops a.tmps)) : YL P ops o v b w := by
  unfold YL Oper.quietAt at *
  rw [he, hw]
  exact h
theorem YL.op {i : Nat} {o : Oper} {v : Value} {a : Act} {w x : World} {K : Act → World → Prop} (hi : ops[i]? = some o) (h : YL P ops o v a w) (hx : Later w x) (hk : ∀ y, Later x y → K (a.put o.dst v) y) : wpOp P ops Q i K a x := by
  unfold wpOp
  rw [hi]
  dsimp only
  rcases h with ⟨hw, hq⟩ | ⟨hw, hv⟩
  · rw [if_pos hw]
    refine Or.inl ?_
    have q := hq x hx
    unfold Oper.quietAt at q
    unfold Oper.wp
    revert q
    cases (execOp a.eval o).run P x with
    | halt _ _ => exact False.elim
    | ok r y =>
      cases r with
      | value u => rintro ⟨rfl, rfl⟩; exact hk _ (Later.refl _)
      | skip => rintro ⟨rfl, rfl⟩; exact hk _ (Later.refl _)
      | enter f args => rintro ⟨rfl, hc⟩; exact hc.mono (by rintro _ z ⟨rfl, hz⟩; exact hk _ hz)
      | _ => exact False.elim
  · rw [if_neg (by rw [hw]; exact Bool.false_ne_true), ← hv]
    exact hk _ (Later.refl _)
/-- What an operation may do to the frame: its own slot, or a call that is put off. -/
def Fr (d : Option Tmp) (a b : Act) : Prop := ∃ u, b = a.put d u ∨ ∃ f, b = { a with defers := f :: a.defers }.put d u
theorem op_frame {j : Nat} {oj : Oper} {K : Act → World → Prop} {a : Act} {x : World} (hj : ops[j]? = some oj) (h : wpOp P ops Q j K a x) : wpOp P ops Q j (fun b y => Fr oj.dst a b ∧ K b y) a x := by
  unfold wpOp at h ⊢
  rw [hj] at h ⊢
  dsimp only at h ⊢
  split
  · rename_i hw
    rw [if_pos hw] at h
    refine h.imp_left fun q => ?_
    unfold Oper.wp at q ⊢
    revert q
    cases (execOp a.eval oj).run P x with
    | halt r y => cases r <;> exact id
    | ok r y =>
      cases r with
      | value u => exact fun q => ⟨⟨u, .inl rfl⟩, q⟩
      | skip => exact fun q => ⟨⟨undef, .inl rfl⟩, q⟩
      | defer f => exact fun q => ⟨⟨undef, .inr ⟨f, rfl⟩⟩, q⟩
      | enter f args => exact fun q => Calls.mono q fun e z hz => by cases e <;> first | exact ⟨⟨_, .inl rfl⟩, hz⟩ | exact hz
      | row r args => exact fun q => Rows.mono q fun u z hz => ⟨⟨u, .inl rfl⟩, hz⟩
      | _ => exact id
  · rename_i hw
    rw [if_neg hw] at h
    exact ⟨⟨undef, .inl rfl⟩, h⟩
/-- An operation beside another that has its value already: the library's law for no world at all, and what the frame may be behind it. -/
theorem op_beside {j : Nat} {oi oj : Oper} {v : Value} {w : World} (hj : ops[j]? = some oj) (hap : oi.apart ops oj = true) (hsi : ∀ cs b, oi.op ≠ .select cs b) (hsj : ∀ cs b, oj.op ≠ .select cs b)
    (hQ : ∀ c a w, Q (.panic c) (a.put oi.dst v) w → Q (.panic c) a w) {K : Act → World → Prop} {a : Act} {x : World} (hy : YL P ops oi v a w) (h : wpOp P ops Q j K (a.put oi.dst v) x) :
    wpOp P ops Q j (fun a' y => YL P ops oi v a' w ∧ K (a'.put oi.dst v) y) a x := by
  have h3 := (Oper.apart_spec hap).2.2
  refine wpOp_mono ?_ (op_frame hj (wpOp_putIf (S := fun _ => False) hj hap hsi hsj hQ (hy.imp (fun q => ⟨q.1, fun _ hf => hf.elim⟩) id) h))
  rintro b y ⟨⟨u, rfl | ⟨f, rfl⟩⟩, -, hk⟩
  · exact ⟨hy.same (execOp_put oi hsi a oj.dst u h3) (wanted_put oi a oj.dst u h3), hk⟩
  · have q : YL P ops oi v { a with defers := f :: a.defers } w := hy.same rfl rfl
    exact ⟨q.same (execOp_put oi hsi _ oj.dst u h3) (wanted_put oi _ oj.dst u h3), hk⟩
/-- Who may come up waits for nobody who has not come up. -/
theorem ready_free {l : Array Bool} {i j : Nat} {oj : Oper} (hi : i ∈ Region.ready md ops l) (hj : j ∈ Region.ready md ops l) (ho : ops[j]? = some oj) : ∀ e ∈ oj.after, Region.binds md e = true → e.on ≠ i := by
  obtain ⟨-, o', ho', hall⟩ := mem_ready.1 hj
  obtain rfl : oj = o' := Option.some.inj (ho.symm.trans ho')
  rintro e he hb rfl
  have q := hall e he hb
  have z := (mem_ready.1 hi).1
  grind
theorem wpL_first {i : Nat} {oi : Oper} {v : Value} (hi : ops[i]? = some oi) (hsel : ∀ (j : Nat) (o : Oper) cs b, ops[j]? = some o → o.op ≠ .select cs b) (hQ : ∀ c a w, Q (.panic c) (a.put oi.dst v) w → Q (.panic c) a w) :
    ∀ (n : Nat) (l : Array Bool) (a : Act) (w : World), (∀ j oj, ops[j]? = some oj → j ≠ i → l.getD j true = false → (∀ e ∈ oj.after, Region.binds md e = true → e.on ≠ i) → oi.apart ops oj = true) →
      i ∈ Region.ready md ops l → YL P ops oi v a w → wpL P md ops Q n (l.setIfInBounds i true) (a.put oi.dst v) w → wpL P md ops Q (n + 1) l a w := by
  intro n
  induction n with
  | zero =>
    intro l a w _ hr hy H x hx
    refine ⟨fun h => (by rw [h] at hr; cases hr), fun j hj => ?_⟩
    by_cases hji : j = i
    · subst hji
      exact hy.op hi hx fun y hxy => ⟨hxy, wpL_later 0 _ _ _ _ (hx.trans hxy) H⟩
    · have q := ready_mono hj hji
      rw [H.1] at q
      cases q
  | succ n ih =>
    intro l a w hfree hr hy H x hx
    refine ⟨fun h => (by rw [h] at hr; cases hr), fun j hj => ?_⟩
    by_cases hji : j = i
    · subst hji
      exact hy.op hi hx fun y hxy => ⟨hxy, wpL_later (n + 1) _ _ _ _ (hx.trans hxy) H⟩
    · obtain ⟨hun, oj, hoj, -⟩ := mem_ready.1 hj
      have q := op_beside hoj (hfree j oj hoj hji hun (ready_free hr hj hoj)) (fun cs b => hsel i oi cs b hi) (fun cs b => hsel j oj cs b hoj) hQ hy ((H x hx).2 j (ready_mono hj hji))
      refine wpOp_mono (fun b y hb => ⟨hb.2.1, ih (l.setIfInBounds j true) b y (fun k ok hk hki hku hno => hfree k ok hk hki ?_ hno) (ready_mono hr (Ne.symm hji)) (hb.1.later (hx.trans hb.2.1)) ?_⟩) q
      · by_cases hjk : j = k
        · subst hjk; exact hun
        · rw [getD_set_ne true hjk] at hku; exact hku
      · rw [Array.setIfInBounds_comm _ _ hji]
        exact hb.2.2
theorem at_drop {L r : List Oper} {i : Nat} {o : Oper} (h : L.drop i = o :: r) : L.toArray[i]? = some o := by
  have q : (L.drop i)[0]? = some o := by rw [h]; rfl
  simpa using q
/-- Take number i: a value. -/
theorem wpL_val {L r : List Oper} {i : Nat} {oi : Oper} {v : Value} {n : Nat} {l : Array Bool} {a : Act} {w : World} (hi : L.drop i = oi :: r) (hs : Region.noSelect L.toArray = true) (hf : Region.free md L.toArray l i = true) (hr : (Region.ready md L.toArray l).contains i = true)
    (hQ : ∀ c a w, Q (.panic c) (a.put oi.dst v) w → Q (.panic c) a w) (hw : Region.wanted oi (yielded L.toArray a.tmps) = true) (hy : ∀ x, Later w x → (execOp a.eval oi).run P x = .ok (.value v) x)
    (h : wpL P md L.toArray Q n (l.setIfInBounds i true) (a.put oi.dst v) w) : wpL P md L.toArray Q (n + 1) l a w :=
  wpL_first (at_drop hi) (Region.noSelect_spec hs) hQ n l a w (Region.free_spec (at_drop hi) hf) (by simpa using hr) (Or.inl ⟨hw, fun x hx => by unfold Oper.quietAt; rw [hy x hx]; exact ⟨rfl, rfl⟩⟩) h
/-- Take number i: a call. -/
theorem wpL_call {L r : List Oper} {i : Nat} {oi : Oper} {v : Value} {f : FuncId} {args : Array Value} {n : Nat} {l : Array Bool} {a : Act} {w : World} (hi : L.drop i = oi :: r) (hs : Region.noSelect L.toArray = true) (hf : Region.free md L.toArray l i = true) (hr : (Region.ready md L.toArray l).contains i = true)
    (hQ : ∀ c a w, Q (.panic c) (a.put oi.dst v) w → Q (.panic c) a w) (hw : Region.wanted oi (yielded L.toArray a.tmps) = true) (hy : ∀ x, Later w x → (execOp a.eval oi).run P x = .ok (.enter f args) x)
    (hc : ∀ x, Later w x → Calls P f args x fun e y => e = .returned v ∧ Below x.heap.size x y)
    (h : wpL P md L.toArray Q n (l.setIfInBounds i true) (a.put oi.dst v) w) : wpL P md L.toArray Q (n + 1) l a w :=
  wpL_first (at_drop hi) (Region.noSelect_spec hs) hQ n l a w (Region.free_spec (at_drop hi) hf) (by simpa using hr) (Or.inl ⟨hw, fun x hx => by unfold Oper.quietAt; rw [hy x hx]; exact ⟨rfl, hc x hx⟩⟩) h
/-- One alone may come up: it is carried out in a later world. -/
theorem wpL_one {L r : List Oper} {i : Nat} {oi : Oper} {n : Nat} {l : Array Bool} {a : Act} {w : World} (hr : Region.ready md L.toArray l = [i]) (hi : L.drop i = oi :: r) (hw : Region.wanted oi (yielded L.toArray a.tmps) = true)
    (h : ∀ x, Later w x → ∃ (v : Value) (y : World), (execOp a.eval oi).run P x = .ok (.value v) y ∧ Later x y ∧ wpL P md L.toArray Q n (l.setIfInBounds i true) (a.put oi.dst v) y) : wpL P md L.toArray Q (n + 1) l a w := by
  intro x hx
  rw [hr]
  refine ⟨fun h => (by cases h), fun j hj => ?_⟩
  rw [List.mem_singleton] at hj
  subst hj
  obtain ⟨v, y, h1, h2, h3⟩ := h x hx
  unfold wpOp
  rw [at_drop hi]
  dsimp only
  rw [if_pos hw]
  refine Or.inl ?_
  unfold Oper.wp
  rw [h1]
  exact ⟨h2, h3⟩
theorem wpL_done {l : Array Bool} {a : Act} {w : World} (hr : Region.ready md ops l = []) (h : ∀ x, Later w x → Q .normal a x) : ∀ n, wpL P md ops Q n l a w
  | 0 => ⟨hr, h⟩
  | _ + 1 => fun x hx => ⟨fun _ => h x hx, by rw [hr]; simp⟩
theorem wp_region_later {id : Nat} {a : Act} {w : World} (hm : P.follows .mixedOrders = true) (h : wpL P .any ops Q ops.size (Array.replicate ops.size false) a w.drew) : (Code.region id ops true).wp P Q a w :=
  wp_region_any hm (wpAny_of_L _ _ _ _ h)
end
end Go.Proofs.Ytdglbakdianjkaa
/- EdD: The model's EditText. -/
namespace Go.Proofs.Ytdglbakdianjkaa
open Go.RowKit
attribute [local go_sem ↓] Go.wp_at_zero Go.wp_at_succ

/-- A number in bytes. -/
def vb (n : Nat) : ByteArray := ⟨(W.vt n).toArray⟩
/-- The text of a record. -/
def editT (e : EM) : ByteArray := ⟨#[UInt8.ofNat e.kind.toNat, UInt8.ofNat e.who.toNat]⟩ ++ vb e.path.size ++ e.path ++ vb e.dest.size ++ e.dest ++ vb e.num.toNat
/-- What is known of a right record's numbers. -/
theorem edit_nums {e : EM} (h : editOk e = true) : 1 ≤ e.kind ∧ e.kind ≤ 10 ∧ 0 ≤ e.who ∧ e.who ≤ 9 ∧ 0 ≤ e.num ∧ e.num ≤ 1000 := by
  unfold editOk at h
  rw [Bool.and_eq_true, inI_iff] at h
  obtain ⟨⟨h1, h2⟩, h3⟩ := h
  refine ⟨h1, h2, ?_⟩
  by_cases h10 : e.kind = 10
  · rw [if_pos h10] at h3
    simp only [Bool.and_eq_true, beq_iff_eq] at h3
    omega
  · rw [if_neg h10, Bool.and_eq_true] at h3
    have h4 := h3.2
    unfold numsOk at h4
    split at h4
    · rw [Bool.and_eq_true, inI_iff, beq_iff_eq] at h4; omega
    · split at h4
      · rw [Bool.and_eq_true, inI_iff, beq_iff_eq] at h4; omega
      · split at h4
        · rw [Bool.and_eq_true, inI_iff, beq_iff_eq] at h4; omega
        · split at h4
          · rw [Bool.and_eq_true, inI_iff, beq_iff_eq] at h4; omega
          · rw [Bool.and_eq_true, beq_iff_eq, beq_iff_eq] at h4; omega
theorem cell_ltE {w : World} {p : Addr} {v : Value} (h : w.cell? p = some v) : p.block < w.heap.size := by
  by_cases c : p.block < w.heap.size
  · exact c
  · exfalso
    unfold World.cell? at h
    rw [Array.getElem?_eq_none (by omega)] at h
    simp at h
/-- A record's cells, behind a world. -/
def EC (w0 : World) (b : Nat) (e : EM) (w : World) : Prop := w.cell? ⟨b, 0, none⟩ = some (.int .i64 e.kind) ∧ w.cell? ⟨b, 1, none⟩ = some (.string e.path) ∧ w.cell? ⟨b, 2, none⟩ = some (.string e.dest) ∧ w.cell? ⟨b, 3, none⟩ = some (.int .i64 e.num) ∧ w.cell? ⟨b, 4, none⟩ = some (.int .i64 e.who) ∧ Shut (Below w0.heap.size w0 w)
theorem EC.below {w0 : World} {b : Nat} {e : EM} {w w' : World} (h : EC w0 b e w) (hb : Below w.heap.size w w') : EC w0 b e w' :=
  ⟨(hb.cell (p := ⟨b, 0, none⟩) (cell_ltE h.1)).trans h.1, (hb.cell (p := ⟨b, 1, none⟩) (cell_ltE h.2.1)).trans h.2.1, (hb.cell (p := ⟨b, 2, none⟩) (cell_ltE h.2.2.1)).trans h.2.2.1, (hb.cell (p := ⟨b, 3, none⟩) (cell_ltE h.2.2.2.1)).trans h.2.2.2.1, (hb.cell (p := ⟨b, 4, none⟩) (cell_ltE h.2.2.2.2.1)).trans h.2.2.2.2.1, ⟨h.2.2.2.2.2.out.trans (hb.mono h.2.2.2.2.2.out.size)⟩⟩
theorem EC.alloc {w0 : World} {b : Nat} {e : EM} {w : World} (h : EC w0 b e w) (o : Obj) : EC w0 b e (w.alloc o) := h.below ((Below.refl _ _).alloc (Nat.le_refl _) o)
theorem EC.drew {w0 : World} {b : Nat} {e : EM} {w : World} (h : EC w0 b e w) : EC w0 b e w.drew := h.below (Below.drew (Below.refl _ _))
theorem two_cells (w : World) (b : Nat) (c1 c2 : UInt8) (h0 : w.cell? ⟨b, 0, none⟩ = some (.int .u8 (c1.toNat : Int))) (h1 : w.cell? ⟨b, 1, none⟩ = some (.int .u8 (c2.toNat : Int))) : (convert 22 9 (.slice (some ⟨b, 0, none⟩) 2 2)).run Try.prog w = .ok (.string ⟨#[c1, c2]⟩) w := by
  refine run_convert_bytes_back _ 22 9 5 ⟨b, 0, none⟩ 2 [c1, c2] Try.underlying22 Try.underlying5 Try.underlying9 (fun j hj => ?_)
  have e : (⟨b, 0, none⟩ : Addr).add j = ⟨b, j, none⟩ := by cases j <;> simp [Addr.add]
  rw [e]
  match j, hj with
  | 0, _ => exact h0
  | 1, _ => exact h1
theorem two_later (x y : World) (c1 c2 : UInt8) (hy : Later (x.alloc (.cells #[.int .u8 (c1.toNat : Int), .int .u8 (c2.toNat : Int)] 5)) y) : (convert 22 9 (.slice (some ⟨x.heap.size, 0, none⟩) 2 2)).run Try.prog y = .ok (.string ⟨#[c1, c2]⟩) y :=
  two_cells _ _ c1 c2 ((Below.cell hy (p := ⟨x.heap.size, 0, none⟩) (by simp)).trans (by rw [World.cell?_alloc_mark]; rfl)) ((Below.cell hy (p := ⟨x.heap.size, 1, none⟩) (by simp)).trans (by rw [World.cell?_alloc_mark]; rfl))
theorem u8_byte (x : Int) (h0 : 0 ≤ x) (h1 : x < 256) : IntKind.u8.wrap x = ((UInt8.ofNat x.toNat).toNat : Int) := by
  rw [IntKind.wrap_u8]
  simp
  omega
set_option maxHeartbeats 1000000 in
theorem specEditText (e : EM) (w : World) (hf : EFit e) : Calls Try.prog 17 #[ev e] w fun r w' => r = .returned (.tuple #[.string (if editOk e then editT e else ⟨#[]⟩), .bool (editOk e)]) ∧ Below w.heap.size w w' := by
  have HOK := Shut.mk (fun W => specEditOk e W hf)
  cases hok : editOk e with
  | false =>
    rw [hok] at HOK
    clear hok
    obtain ⟨kind, path, dest, num, who⟩ := e
    go_enter Try.func17, Try.ntmps17
    go_wp2_with (go_at_call 11; refine (HOK.out _).mono ?_; rintro e w1 ⟨rfl, hb1⟩)
    go_ret2
    exact ⟨rfl, ((Below.refl _ _).alloc (Nat.le_refl _) _).trans (hb1.mono (by simp))⟩
  | true =>
    rw [hok] at HOK
    obtain ⟨n1, n2, n3, n4, n5, n6⟩ := edit_nums hok
    obtain ⟨f1, f2⟩ := hf
    obtain ⟨kind, path, dest, num, who⟩ := e
    dsimp only at *
    clear hok
    obtain ⟨n, rfl⟩ := Int.eq_ofNat_of_zero_le n5
    have v1 := W.vt_len path.size
    have v2 := W.vt_len dest.size
    have v3 := W.vt_len n
    have HV1 := Shut.mk (fun W => l01Var_any path.size W (by omega))
    have HV2 := Shut.mk (fun W => l01Var_any dest.size W (by omega))
    have HV3 := Shut.mk (fun W => l01Var_any n W (by omega))
    have hT : editT ⟨kind, path, dest, n, who⟩ = ⟨#[UInt8.ofNat kind.toNat, UInt8.ofNat who.toNat]⟩ ++ (⟨(W.vt path.size).toArray⟩ : ByteArray) ++ path ++ (⟨(W.vt dest.size).toArray⟩ : ByteArray) ++ dest ++ (⟨(W.vt n).toArray⟩ : ByteArray) := rfl
    have t1 : (⟨(W.vt path.size).toArray⟩ : ByteArray).size ≤ 2000000 := by show (W.vt path.size).toArray.size ≤ _; rw [List.size_toArray]; omega
    have t2 : (⟨(W.vt dest.size).toArray⟩ : ByteArray).size ≤ 2000000 := by show (W.vt dest.size).toArray.size ≤ _; rw [List.size_toArray]; omega
    have t3 : (⟨(W.vt n).toArray⟩ : ByteArray).size ≤ 2000000 := by show (W.vt n).toArray.size ≤ _; rw [List.size_toArray]; omega
    have t0 : (⟨#[UInt8.ofNat kind.toNat, UInt8.ofNat who.toNat]⟩ : ByteArray).size ≤ 2 := by simp [ByteArray.size]
    have hk := u8_byte kind (by omega) (by omega)
    have hw := u8_byte who (by omega) (by omega)
    generalize (⟨(W.vt path.size).toArray⟩ : ByteArray) = V1 at HV1 hT t1
    generalize (⟨(W.vt dest.size).toArray⟩ : ByteArray) = V2 at HV2 hT t2
    generalize (⟨(W.vt n).toArray⟩ : ByteArray) = V3 at HV3 hT t3
    obtain ⟨K, hK⟩ : ∃ K : ByteArray, K = ⟨#[UInt8.ofNat kind.toNat, UInt8.ofNat who.toNat]⟩ := ⟨_, rfl⟩
    rw [← hK] at hT t0
    generalize UInt8.ofNat kind.toNat = k1 at hk hK
    generalize UInt8.ofNat who.toNat = k2 at hw hK
    have HK := Shut.mk hK.symm
    clear hK
    rw [hT]
    have HQ1 : Shut (¬ (9223372036854775807 < K.size + V1.size)) := ⟨by omega⟩
    have HQ2 : Shut (¬ (9223372036854775807 < K.size + V1.size + path.size)) := ⟨by omega⟩
    have HQ3 : Shut (¬ (9223372036854775807 < K.size + V1.size + path.size + V2.size)) := ⟨by omega⟩
    have HQ4 : Shut (¬ (9223372036854775807 < K.size + V1.size + path.size + V2.size + dest.size)) := ⟨by omega⟩
    have HQ5 : Shut (¬ (9223372036854775807 < K.size + V1.size + path.size + V2.size + dest.size + V3.size)) := ⟨by omega⟩
    clear hT v1 v2 v3 t0 t1 t2 t3 n1 n2 n3 n4 n5 n6 f1 f2
    go_enter Try.func17, Try.ntmps17
    go_upto_region 3 with (go_at_call 11; refine (HOK.out _).mono ?_; rintro e w1 ⟨rfl, hb1⟩; have hwc := (wcells_new w #[.int .i64 kind, .string path, .string dest, .int .i64 n, .int .i64 who] 25).grow hb1; have hbb : Below w.heap.size w w1 := ((Below.refl _ _).alloc (Nat.le_refl _) _).trans (hb1.mono (by simp)); have HWC := Shut.mk (And.intro hwc hbb); clear hb1 hwc hbb)
    have HEC : EC w w.heap.size ⟨kind, path, dest, n, who⟩ w1 := ⟨(HWC.out.1.2 0 _ rfl).1, (HWC.out.1.2 1 _ rfl).1, (HWC.out.1.2 2 _ rfl).1, (HWC.out.1.2 3 _ rfl).1, (HWC.out.1.2 4 _ rfl).1, ⟨HWC.out.2⟩⟩
    clear HWC
    have hS := HEC
    obtain ⟨c0, c1, c2, c3, c4, hB⟩ := HEC
    dsimp only at c0 c1 c2 c3 c4
    clear c0 c1 c2 c3 c4 hB
    have HLE : Shut (∀ x, Later w1.drew x → EC w w.heap.size ⟨kind, path, dest, n, who⟩ x) := ⟨fun x hx => (EC.drew hS).below hx⟩
    refine wp_region_later (by kernel_rfl) ?_
    refine wpL_val (i := 0) (v := ?v0) rfl (by kernel_rfl) (by kernel_rfl) (by kernel_rfl) (fun _ _ _ h => h) (by rfl) ?hy0 ?rest0
    case hy0 => (intro x hx; go_simp; try with_reducible rfl)
    try simp only [Act.put, List.setIfInBounds_toArray, List.set_cons_zero, List.set_cons_succ]
    refine wpL_val (i := 1) (v := ?v1) rfl (by kernel_rfl) (by kernel_rfl) (by kernel_rfl) (fun _ _ _ h => h) (by rfl) ?hy1 ?rest1
    case hy1 => (intro x hx; obtain ⟨c0, c1, c2, c3, c4, -⟩ := HLE.out x hx; dsimp only at c0 c1 c2 c3 c4; go_simp; try with_reducible rfl)
    try simp only [Act.put, List.setIfInBounds_toArray, List.set_cons_zero, List.set_cons_succ]
    refine wpL_val (i := 2) (v := ?v2) rfl (by kernel_rfl) (by kernel_rfl) (by kernel_rfl) (fun _ _ _ h => h) (by rfl) ?hy2 ?rest2
    case hy2 => (intro x hx; go_simp; try with_reducible rfl)
    try simp only [Act.put, List.setIfInBounds_toArray, List.set_cons_zero, List.set_cons_succ]
    refine wpL_val (i := 3) (v := ?v3) rfl (by kernel_rfl) (by kernel_rfl) (by kernel_rfl) (fun _ _ _ h => h) (by rfl) ?hy3 ?rest3
    case hy3 => (intro x hx; go_simp; try with_reducible rfl)
    try simp only [Act.put, List.setIfInBounds_toArray, List.set_cons_zero, List.set_cons_succ]
    refine wpL_val (i := 4) (v := ?v4) rfl (by kernel_rfl) (by kernel_rfl) (by kernel_rfl) (fun _ _ _ h => h) (by rfl) ?hy4 ?rest4
    case hy4 => (intro x hx; obtain ⟨c0, c1, c2, c3, c4, -⟩ := HLE.out x hx; dsimp only at c0 c1 c2 c3 c4; go_simp; try with_reducible rfl)
    try simp only [Act.put, List.setIfInBounds_toArray, List.set_cons_zero, List.set_cons_succ]
    refine wpL_val (i := 5) (v := ?v5) rfl (by kernel_rfl) (by kernel_rfl) (by kernel_rfl) (fun _ _ _ h => h) (by rfl) ?hy5 ?rest5
    case hy5 => (intro x hx; go_simp; try with_reducible rfl)
    try simp only [Act.put, List.setIfInBounds_toArray, List.set_cons_zero, List.set_cons_succ]
    refine wpL_val (i := 8) (v := ?v8) rfl (by kernel_rfl) (by kernel_rfl) (by kernel_rfl) (fun _ _ _ h => h) (by rfl) ?hy8 ?rest8
    case hy8 => (intro x hx; go_simp; try with_reducible rfl)
    try simp only [Act.put, List.setIfInBounds_toArray, List.set_cons_zero, List.set_cons_succ]
    refine wpL_val (i := 9) (v := ?v9) rfl (by kernel_rfl) (by kernel_rfl) (by kernel_rfl) (fun _ _ _ h => h) (by rfl) ?hy9 ?rest9
    case hy9 => (intro x hx; obtain ⟨c0, c1, c2, c3, c4, -⟩ := HLE.out x hx; dsimp only at c0 c1 c2 c3 c4; go_simp; try with_reducible rfl)
    try simp only [Act.put, List.setIfInBounds_toArray, List.set_cons_zero, List.set_cons_succ]
    refine wpL_val (i := 10) (v := ?v10) rfl (by kernel_rfl) (by kernel_rfl) (by kernel_rfl) (fun _ _ _ h => h) (by rfl) ?hy10 ?rest10
    case hy10 => (intro x hx; go_simp; try with_reducible rfl)
    try simp only [Act.put, List.setIfInBounds_toArray, List.set_cons_zero, List.set_cons_succ]
    refine wpL_call (i := 11) (v := .string V1) (f := 35) (args := #[.int .i64 (path.size : Nat)]) rfl (by kernel_rfl) (by kernel_rfl) (by kernel_rfl) (fun _ _ _ h => h) (by rfl) ?hy11 (fun x _ => HV1.out x) ?rest11
    case hy11 => (intro x hx; go_simp; try with_reducible rfl)
    try simp only [Act.put, List.setIfInBounds_toArray, List.set_cons_zero, List.set_cons_succ]
    refine wpL_val (i := 13) (v := ?v13) rfl (by kernel_rfl) (by kernel_rfl) (by kernel_rfl) (fun _ _ _ h => h) (by rfl) ?hy13 ?rest13
    case hy13 => (intro x hx; go_simp; try with_reducible rfl)
    try simp only [Act.put, List.setIfInBounds_toArray, List.set_cons_zero, List.set_cons_succ]
    refine wpL_val (i := 14) (v := ?v14) rfl (by kernel_rfl) (by kernel_rfl) (by kernel_rfl) (fun _ _ _ h => h) (by rfl) ?hy14 ?rest14
    case hy14 => (intro x hx; obtain ⟨c0, c1, c2, c3, c4, -⟩ := HLE.out x hx; dsimp only at c0 c1 c2 c3 c4; go_simp; try with_reducible rfl)
    try simp only [Act.put, List.setIfInBounds_toArray, List.set_cons_zero, List.set_cons_succ]
    refine wpL_val (i := 16) (v := ?v16) rfl (by kernel_rfl) (by kernel_rfl) (by kernel_rfl) (fun _ _ _ h => h) (by rfl) ?hy16 ?rest16
    case hy16 => (intro x hx; go_simp; try with_reducible rfl)
    try simp only [Act.put, List.setIfInBounds_toArray, List.set_cons_zero, List.set_cons_succ]
    refine wpL_val (i := 17) (v := ?v17) rfl (by kernel_rfl) (by kernel_rfl) (by kernel_rfl) (fun _ _ _ h => h) (by rfl) ?hy17 ?rest17
    case hy17 => (intro x hx; obtain ⟨c0, c1, c2, c3, c4, -⟩ := HLE.out x hx; dsimp only at c0 c1 c2 c3 c4; go_simp; try with_reducible rfl)
    try simp only [Act.put, List.setIfInBounds_toArray, List.set_cons_zero, List.set_cons_succ]
    refine wpL_val (i := 18) (v := ?v18) rfl (by kernel_rfl) (by kernel_rfl) (by kernel_rfl) (fun _ _ _ h => h) (by rfl) ?hy18 ?rest18
    case hy18 => (intro x hx; go_simp; try with_reducible rfl)
    try simp only [Act.put, List.setIfInBounds_toArray, List.set_cons_zero, List.set_cons_succ]
    refine wpL_call (i := 19) (v := .string V2) (f := 35) (args := #[.int .i64 (dest.size : Nat)]) rfl (by kernel_rfl) (by kernel_rfl) (by kernel_rfl) (fun _ _ _ h => h) (by rfl) ?hy19 (fun x _ => HV2.out x) ?rest19
    case hy19 => (intro x hx; go_simp; try with_reducible rfl)
    try simp only [Act.put, List.setIfInBounds_toArray, List.set_cons_zero, List.set_cons_succ]
    refine wpL_val (i := 21) (v := ?v21) rfl (by kernel_rfl) (by kernel_rfl) (by kernel_rfl) (fun _ _ _ h => h) (by rfl) ?hy21 ?rest21
    case hy21 => (intro x hx; go_simp; try with_reducible rfl)
    try simp only [Act.put, List.setIfInBounds_toArray, List.set_cons_zero, List.set_cons_succ]
    refine wpL_val (i := 22) (v := ?v22) rfl (by kernel_rfl) (by kernel_rfl) (by kernel_rfl) (fun _ _ _ h => h) (by rfl) ?hy22 ?rest22
    case hy22 => (intro x hx; obtain ⟨c0, c1, c2, c3, c4, -⟩ := HLE.out x hx; dsimp only at c0 c1 c2 c3 c4; go_simp; try with_reducible rfl)
    try simp only [Act.put, List.setIfInBounds_toArray, List.set_cons_zero, List.set_cons_succ]
    refine wpL_val (i := 24) (v := ?v24) rfl (by kernel_rfl) (by kernel_rfl) (by kernel_rfl) (fun _ _ _ h => h) (by rfl) ?hy24 ?rest24
    case hy24 => (intro x hx; go_simp; try with_reducible rfl)
    try simp only [Act.put, List.setIfInBounds_toArray, List.set_cons_zero, List.set_cons_succ]
    refine wpL_val (i := 25) (v := ?v25) rfl (by kernel_rfl) (by kernel_rfl) (by kernel_rfl) (fun _ _ _ h => h) (by rfl) ?hy25 ?rest25
    case hy25 => (intro x hx; obtain ⟨c0, c1, c2, c3, c4, -⟩ := HLE.out x hx; dsimp only at c0 c1 c2 c3 c4; go_simp; try with_reducible rfl)
    try simp only [Act.put, List.setIfInBounds_toArray, List.set_cons_zero, List.set_cons_succ]
    refine wpL_call (i := 26) (v := .string V3) (f := 35) (args := #[.int .i64 n]) rfl (by kernel_rfl) (by kernel_rfl) (by kernel_rfl) (fun _ _ _ h => h) (by rfl) ?hy26 (fun x _ => HV3.out x) ?rest26
    case hy26 => (intro x hx; go_simp; try with_reducible rfl)
    try simp only [Act.put, List.setIfInBounds_toArray, List.set_cons_zero, List.set_cons_succ]
    refine wpL_one (i := 6) (by kernel_rfl) rfl (by rfl) ?_
    intro x hx
    refine ⟨.slice (some ⟨x.heap.size, 0, none⟩) 2 2, x.alloc (.cells #[.int .u8 (k1.toNat : Int), .int .u8 (k2.toNat : Int)] 5), ?_, (Below.refl _ _).alloc (Nat.le_refl _) _, ?_⟩
    · go_simp
    have HX : Shut (∀ y, Later (x.alloc (.cells #[.int .u8 (k1.toNat : Int), .int .u8 (k2.toNat : Int)] 5)) y → (convert 22 9 (.slice (some ⟨x.heap.size, 0, none⟩) 2 2)).run Try.prog y = .ok (.string K) y) := ⟨fun y hy => by
      rw [← HK.out]
      exact two_later x y k1 k2 hy⟩
    try simp only [Act.put, List.setIfInBounds_toArray, List.set_cons_zero, List.set_cons_succ]
    refine wpL_val (i := 7) (v := ?v7) rfl (by kernel_rfl) (by kernel_rfl) (by kernel_rfl) (fun _ _ _ h => h) (by rfl) ?hy7 ?rest7
    case hy7 => (intro x hx; have hX := HX.out x hx; go_simp; try with_reducible rfl)
    try simp only [Act.put, List.setIfInBounds_toArray, List.set_cons_zero, List.set_cons_succ]
    refine wpL_val (i := 12) (v := ?v12) rfl (by kernel_rfl) (by kernel_rfl) (by kernel_rfl) (fun _ _ _ h => h) (by rfl) ?hy12 ?rest12
    case hy12 => (intro x hx; have q := HQ1.out; go_simp; try with_reducible rfl)
    try simp only [Act.put, List.setIfInBounds_toArray, List.set_cons_zero, List.set_cons_succ]
    refine wpL_val (i := 15) (v := ?v15) rfl (by kernel_rfl) (by kernel_rfl) (by kernel_rfl) (fun _ _ _ h => h) (by rfl) ?hy15 ?rest15
    case hy15 => (intro x hx; have q := HQ2.out; go_simp; try with_reducible rfl)
    try simp only [Act.put, List.setIfInBounds_toArray, List.set_cons_zero, List.set_cons_succ]
    refine wpL_val (i := 20) (v := ?v20) rfl (by kernel_rfl) (by kernel_rfl) (by kernel_rfl) (fun _ _ _ h => h) (by rfl) ?hy20 ?rest20
    case hy20 => (intro x hx; have q := HQ3.out; go_simp; try with_reducible rfl)
    try simp only [Act.put, List.setIfInBounds_toArray, List.set_cons_zero, List.set_cons_succ]
    refine wpL_val (i := 23) (v := ?v23) rfl (by kernel_rfl) (by kernel_rfl) (by kernel_rfl) (fun _ _ _ h => h) (by rfl) ?hy23 ?rest23
    case hy23 => (intro x hx; have q := HQ4.out; go_simp; try with_reducible rfl)
    try simp only [Act.put, List.setIfInBounds_toArray, List.set_cons_zero, List.set_cons_succ]
    refine wpL_val (i := 27) (v := ?v27) rfl (by kernel_rfl) (by kernel_rfl) (by kernel_rfl) (fun _ _ _ h => h) (by rfl) ?hy27 ?rest27
    case hy27 => (intro x hx; have q := HQ5.out; go_simp; try with_reducible rfl)
    try simp only [Act.put, List.setIfInBounds_toArray, List.set_cons_zero, List.set_cons_succ]
    refine wpL_val (i := 28) (v := ?v28) rfl (by kernel_rfl) (by kernel_rfl) (by kernel_rfl) (fun _ _ _ h => h) (by rfl) ?hy28 ?rest28
    case hy28 => (intro x hx; go_simp; try with_reducible rfl)
    try simp only [Act.put, List.setIfInBounds_toArray, List.set_cons_zero, List.set_cons_succ]
    refine wpL_val (i := 29) (v := ?v29) rfl (by kernel_rfl) (by kernel_rfl) (by kernel_rfl) (fun _ _ _ h => h) (by rfl) ?hy29 ?rest29
    case hy29 => (intro x hx; go_simp; try with_reducible rfl)
    try simp only [Act.put, List.setIfInBounds_toArray, List.set_cons_zero, List.set_cons_succ]
    refine wpL_done (by kernel_rfl) ?_ _
    intro y hy
    have HB := (EC.below (HLE.out x hx) (Later.trans (a := x) ((Below.refl _ _).alloc (Nat.le_refl _) _) hy)).2.2.2.2.2
    go_wp2_with fail
    go_ret2
    exact ⟨rfl, HB.out⟩
end Go.Proofs.Ytdglbakdianjkaa
/- ReadVarM: Plain facts on reading a number from bytes: what the loops of ReadVar hold from round to round. -/
namespace Go.Proofs.Ytdglbakdianjkaa.W
open Go.PlainAid (bt)

/-- What ReadVar answers at a place of a text. -/
def readVar (s : ByteArray) (a : Nat) : Option (Nat × Nat) := rvs [] (s.data.toList.drop a) a

theorem rv_bounds : ∀ (l : List UInt8) (n w : Nat) (f : Bool) (q m p : Nat), rv n w f l q = some (m, p) → m ≤ 1000000000 ∧ p ≤ q + l.length
  | [], n, w, f, q, m, p, h => by simp [rv] at h
  | b :: l, n, w, f, q, m, p, h => by
    rw [rv] at h
    split at h
    · simp at h
    · split at h
      · have := rv_bounds l _ _ _ _ _ _ h
        simp; omega
      · split at h
        · simp at h
        · split at h
          · simp at h
          · simp at h
            simp; omega
theorem readVar_bounds {s : ByteArray} {a m p : Nat} (ha : a ≤ s.size) (h : readVar s a = some (m, p)) : m ≤ 1000000000 ∧ p ≤ s.size := by
  have := rv_bounds _ _ _ _ _ _ _ h
  simp at this
  have e2 : s.data.size = s.size := rfl
  omega

/-- What has been read, the bytes from a to j: the number so far, its weight. -/
def RvRel (s : ByteArray) (a j : Nat) (nn sc : Int) : Prop :=
  ∃ hd rest : List UInt8, s.data.toList.drop a = hd ++ rest ∧ heads hd ∧ j = a + hd.length ∧ j ≤ s.size ∧ nn = (val hd : Int) ∧ sc = ((128 ^ hd.length : Nat) : Int) ∧ hd.length ≤ 5 ∧ rvs hd rest j = readVar s a

theorem RvRel.start (s : ByteArray) (a : Nat) (h : a ≤ s.size) : RvRel s a a 0 1 :=
  ⟨[], s.data.toList.drop a, rfl, fun _ h => by simp at h, rfl, h, rfl, rfl, by simp, rfl⟩

theorem RvRel.bounds {s : ByteArray} {a j : Nat} {nn sc : Int} (h : RvRel s a j nn sc) : 0 ≤ nn ∧ nn < sc ∧ 1 ≤ sc ∧ sc ≤ 34359738368 ∧ a ≤ j ∧ j ≤ a + 5 ∧ j ≤ s.size := by
  obtain ⟨hd, rest, _, _, rfl, hj, rfl, rfl, hk, _⟩ := h
  have h1 := val_lt hd
  have h2 : 128 ^ hd.length ≤ 128 ^ 5 := Nat.pow_le_pow_right (by omega) hk
  have h3 : 0 < 128 ^ hd.length := Nat.pow_pos (by omega)
  omega

theorem RvRel.over {s : ByteArray} {a j : Nat} {nn sc : Int} (h : RvRel s a j nn sc) (hj : s.size ≤ j) : readVar s a = none := by
  obtain ⟨hd, rest, he, _, rfl, _, rfl, rfl, _, hr⟩ := h
  have hl := congrArg List.length he
  simp at hl
  have : rest = [] := List.eq_nil_of_length_eq_zero (by omega)
  subst this
  rw [← hr]; exact rv_nil _ _ _ _

/-- Five bytes, or a weight beyond the greatest number: that is one. -/
theorem RvRel.five {s : ByteArray} {a j : Nat} {nn sc : Int} (h : RvRel s a j nn sc) : (j = a + 5 ↔ 1000000000 < sc) ∧ (1000000000 < sc → readVar s a = none) := by
  obtain ⟨hd, rest, he, _, rfl, _, rfl, rfl, hk, hr⟩ := h
  refine ⟨⟨fun h => ?_, fun h => ?_⟩, fun h => ?_⟩
  · have : hd.length = 5 := by omega
    rw [this]; omega
  · by_cases h5 : hd.length = 5
    · omega
    · have h2 : 128 ^ hd.length ≤ 128 ^ 4 := Nat.pow_le_pow_right (by omega) (by omega)
      omega
  · rw [← hr]; exact rv_great _ _ _ _ _ (by omega)

/-- The byte at j, and what is left behind it. -/
theorem byte_at (s : ByteArray) (a : Nat) (hd rest : List UInt8) (he : s.data.toList.drop a = hd ++ rest) (hj : a + hd.length < s.size) :
    ∃ b r, rest = b :: r ∧ bt s (a + hd.length) = (b.toNat : Int) := by
  cases rest with
  | nil =>
    have hl := congrArg List.length he
    simp at hl
    have : s.data.size = s.size := rfl
    omega
  | cons b r =>
    refine ⟨b, r, rfl, ?_⟩
    have h1 : (s.data.toList.drop a)[hd.length]? = some b := by rw [he]; simp
    rw [List.getElem?_drop] at h1
    have h2 : s.data.toList[a + hd.length]'(by simpa using hj) = b := by
      rw [List.getElem?_eq_some_iff] at h1
      exact h1.2
    unfold bt
    rw [dif_pos hj]
    have h3 : s[a + hd.length] = s.data.toList[a + hd.length]'(by simpa using hj) := rfl
    rw [h3, h2]

theorem RvRel.head {s : ByteArray} {a j : Nat} {nn sc : Int} (h : RvRel s a j nn sc) (hj : j < s.size) (hs : sc ≤ 1000000000) (hb : 127 < bt s j) :
    RvRel s a (j + 1) (nn + (bt s j - 128) * sc) (sc * 128) ∧ RvRel s a (j + 1) (nn + bt s j % 128 * sc) (sc * 128) := by
  have h5 := h.five
  obtain ⟨hd, rest, he, hh, rfl, _, rfl, rfl, hk, hr⟩ := h
  obtain ⟨b, r, rfl, hbt⟩ := byte_at s a hd rest he hj
  rw [hbt] at hb ⊢
  have hlt := b.toNat_lt
  have e : (b.toNat : Int) % 128 = (b.toNat : Int) - 128 := by omega
  rw [e]
  have key : RvRel s a (a + hd.length + 1) ((val hd : Int) + ((b.toNat : Int) - 128) * ((128 ^ hd.length : Nat) : Int)) (((128 ^ hd.length : Nat) : Int) * 128) := by
    refine ⟨hd ++ [b], r, by rw [he]; simp, fun x hx => ?_, by simp; omega, by omega, ?_, by simp [Nat.pow_succ], by simp; omega, ?_⟩
    · rcases List.mem_append.1 hx with h | h
      · exact hh x h
      · simp at h; subst h; omega
    · rw [val_snoc]
      have : b.toNat % 128 = b.toNat - 128 := by omega
      rw [this, Int.natCast_add, Int.natCast_mul, Int.natCast_sub (by omega)]; rfl
    · rw [← hr]
      have := rvs_step hd b r (a + hd.length) (by omega) (by omega)
      rw [this]
  exact ⟨key, key⟩

theorem RvRel.last {s : ByteArray} {a j : Nat} {nn sc : Int} (h : RvRel s a j nn sc) (hj : j < s.size) (hs : sc ≤ 1000000000) (hb : bt s j ≤ 127) :
    (bt s j = 0 → a < j → readVar s a = none) ∧ (1000000000 < nn + bt s j * sc → readVar s a = none) ∧
    ((bt s j ≠ 0 ∨ j = a) → nn + bt s j * sc ≤ 1000000000 → readVar s a = some ((nn + bt s j * sc).toNat, j + 1)) := by
  obtain ⟨hd, rest, he, hh, rfl, _, rfl, rfl, hk, hr⟩ := h
  obtain ⟨b, r, rfl, hbt⟩ := byte_at s a hd rest he hj
  rw [hbt] at hb ⊢
  have e : (val hd : Int) + (b.toNat : Int) * ((128 ^ hd.length : Nat) : Int) = ((val hd + b.toNat * 128 ^ hd.length : Nat) : Int) := by rw [Int.natCast_add, Int.natCast_mul]
  rw [e, ← hr]
  unfold rvs
  refine ⟨fun h0 h1 => ?_, fun h1 => ?_, fun h0 h1 => ?_⟩
  · rw [decide_eq_false (by omega)]; exact rv_nought _ _ _ _ _ (by omega)
  · exact rv_far _ _ _ _ _ _ (by omega) (by omega)
  · rw [rv_done _ _ _ _ _ _ (by omega) (by omega) (by
      rcases h0 with h | h
      · left; omega
      · right; simp; have : hd.length = 0 := by omega
        exact List.eq_nil_of_length_eq_zero this) (by omega), Int.toNat_natCast]

/-- As the other program tells it: by the bytes of the number. -/
theorem RvRel.same {s : ByteArray} {a j : Nat} {nn sc : Int} (h : RvRel s a j nn sc) (hj : j < s.size) (hs : sc ≤ 1000000000) (hb : bt s j ≤ 127) :
    (1000000000 < nn + bt s j % 128 * sc → readVar s a = none) ∧
    (nn + bt s j % 128 * sc ≤ 1000000000 → readVar s a = if vt (nn + bt s j % 128 * sc).toNat = (s.extract a (j + 1)).data.toList then some ((nn + bt s j % 128 * sc).toNat, j + 1) else none) := by
  obtain ⟨hd, rest, he, hh, rfl, _, rfl, rfl, hk, hr⟩ := h
  obtain ⟨b, r, rfl, hbt⟩ := byte_at s a hd rest he hj
  have hk4 : hd.length ≤ 4 := by
    by_cases h5 : hd.length = 5
    · rw [h5] at hs; omega
    · omega
  rw [hbt] at hb ⊢
  have e0 : (b.toNat : Int) % 128 = b.toNat := by omega
  have e : (val hd : Int) + (b.toNat : Int) * ((128 ^ hd.length : Nat) : Int) = ((val (hd ++ [b]) : Nat) : Int) := by
    rw [val_snoc, Int.natCast_add, Int.natCast_mul]
    have : b.toNat % 128 = b.toNat := by omega
    rw [this]
  have ex : (s.extract a (a + hd.length + 1)).data.toList = hd ++ [b] := by
    have : (s.extract a (a + hd.length + 1)).data.toList = (s.data.toList.drop a).take (hd.length + 1) := by
      simp [ByteArray.data_extract]
      congr 1; omega
    rw [this, he]
    have e3 : hd ++ b :: r = (hd ++ [b]) ++ r := by simp
    rw [e3, List.take_left' (by simp)]
  rw [e0, e, ex, ← hr, rvs_end hd b r _ hk4 hh (by omega)]
  have e4 : ((val (hd ++ [b]) : Nat) : Int).toNat = val (hd ++ [b]) := rfl
  rw [e4]
  refine ⟨fun h1 => ?_, fun h1 => ?_⟩
  · rw [if_neg (fun h => by have := h.1; omega)]
  · by_cases hv : vt (val (hd ++ [b])) = hd ++ [b]
    · rw [if_pos ⟨by omega, hv⟩, if_pos hv]
    · rw [if_neg (fun h => hv h.2), if_neg hv]
end Go.Proofs.Ytdglbakdianjkaa.W
/- ReadVar: The walks of the two ReadVar: each returns what 'readVarI' says. -/
namespace Go.Proofs.Ytdglbakdianjkaa
open Go.RowKit
open Go.PlainAid (bt)
attribute [local go_sem ↓] Go.wp_at_zero Go.wp_at_succ

/-- What ReadVar hands back. -/
def rvV : Option (Nat × Nat) → Value
  | none => .tuple #[.int .i64 0, .int .i64 0, .bool false]
  | some (n, p) => .tuple #[.int .i64 n, .int .i64 p, .bool true]
theorem rvV_some {x y : Int} {p : Nat} (hx : 0 ≤ x) (hy : y = (p : Int)) : Value.tuple #[.int .i64 x, .int .i64 y, .bool true] = rvV (some (x.toNat, p)) := by
  have : ((x.toNat : Nat) : Int) = x := by omega
  simp only [rvV]; rw [this, hy]
theorem rvV_form : ∀ x, ∃ (p q : Int) (b : Bool), rvV x = .tuple #[.int .i64 p, .int .i64 q, .bool b]
  | none => ⟨0, 0, false, rfl⟩
  | some (n, p) => ⟨n, p, true, rfl⟩
def readVarI (s : ByteArray) (a : Int) : Option (Nat × Nat) := if 0 ≤ a ∧ a ≤ s.size then W.readVar s a.toNat else none

theorem implReadVar_no (s : ByteArray) (a : Int) (w : World) (h : a < 0 ∨ (s.size : Int) < a) :
    Calls Try.prog 52 #[.string s, .int .i64 a] w fun e w' => e = .returned (.tuple #[.int .i64 0, .int .i64 0, .bool false]) ∧ w' = w := by
  rcases h with h | h
  · go_enter Try.func52, Try.ntmps52
    go_wp2_with fail
    go_step3
    go_wp2_with fail
    try rw [Exit.noGoto_ret]
    go_ret3
    exact ⟨rfl, rfl⟩
  · have h0 : ¬ a < 0 := by omega
    go_enter Try.func52, Try.ntmps52
    go_wp2_with fail
    go_step3
    go_wp2_with fail
    try rw [Exit.noGoto_ret]
    go_ret3
    exact ⟨rfl, rfl⟩

set_option maxHeartbeats 400000 in
theorem implReadVar_yes (s : ByteArray) (a : Nat) (w : World) (hs : s.size ≤ 1048576) (ha : a ≤ s.size) :
    Calls Try.prog 52 #[.string s, .int .i64 a] w fun e w' => e = .returned (rvV (W.readVar s a)) ∧ w' = w := by
  have hb := Go.PlainAid.get_bt s
  have h1 : decide ((a : Int) < 0) = false := by simp
  have h2 : decide ((s.size : Int) < a) = false := by simp; omega
  go_enter Try.func52, Try.ntmps52
  go_wp2_with fail
  go_step3
  go_wp2_with fail
  go_step3
  go_wp2_with fail
  go_loop [7, 8, 9] (fun n c i => ∃ (j : Nat) (nn sc : Int), n = .int .i64 nn ∧ c = .int .i64 sc ∧ i = .int .i64 j ∧ W.RvRel s a j nn sc) (fun _ _ i => s.size - (intOf i).toNat)
  case atStart => exact ⟨a, 0, 1, rfl, rfl, rfl, W.RvRel.start s a ha⟩
  case round =>
    obtain ⟨j, nn, sc, rfl, rfl, rfl, hr⟩ := hrel
    obtain ⟨n0, n1, s0, s1, j0, j1, j2⟩ := hr.bounds
    by_cases hj : j < s.size
    · have b0 := Go.PlainAid.bt_nonneg s j
      have b1 := Go.PlainAid.bt_le s j
      by_cases hsc : 1000000000 < sc
      · have HR : Hid (W.readVar s a = none) := hr.five.2 hsc
        go_wp2
        go_ret3
        exact ⟨by rw [HR.out]; rfl, rfl⟩
      · by_cases hbb : 127 < bt s j
        · have hn := (hr.head hj (by omega) hbb).1
          have p0 : 0 ≤ (bt s j - 128) * sc := Int.mul_nonneg (by omega) (by omega)
          have p1 : (bt s j - 128) * sc ≤ 127 * 1000000000 := Int.mul_le_mul (by omega) (by omega) (by omega) (by omega)
          go_wp2
          go_round
          case rel => exact ⟨j + 1, _, _, rfl, rfl, by go_num, hn⟩
          case measure => simp [intOf]; omega
        · obtain ⟨q1, q2, q3⟩ := hr.last hj (by omega) (by omega)
          have p0 : 0 ≤ bt s j * sc := Int.mul_nonneg (by omega) (by omega)
          have p1 : bt s j * sc ≤ 127 * 1000000000 := Int.mul_le_mul (by omega) (by omega) (by omega) (by omega)
          by_cases hz : bt s j = 0
          · by_cases haj : a < j
            · have HR : Hid (W.readVar s a = none) := q1 hz haj
              clear q1 q2 q3
              go_wp2
              go_ret3
              exact ⟨by rw [HR.out]; rfl, rfl⟩
            · have HR : Hid (W.readVar s a = some (nn.toNat, j + 1)) := by
                have := q3 (.inr (by omega)) (by rw [hz]; omega)
                rw [hz] at this
                show W.readVar s a = some (nn.toNat, j + 1)
                simpa using this
              have hm : nn ≤ 1000000000 := by omega
              clear q1 q2 q3
              go_wp2
              go_ret3
              refine ⟨?_, rfl⟩
              rw [HR.out]
              exact congrArg Ending.returned (rvV_some n0 (by omega))
          · by_cases hm : 1000000000 < nn + bt s j * sc
            · have HR : Hid (W.readVar s a = none) := q2 hm
              clear q1 q2 q3
              go_wp2
              go_ret3
              exact ⟨by rw [HR.out]; rfl, rfl⟩
            · have HR : Hid (W.readVar s a = some ((nn + bt s j * sc).toNat, j + 1)) := q3 (.inl hz) (by omega)
              clear q1 q2 q3
              go_wp2
              go_ret3
              refine ⟨?_, rfl⟩
              rw [HR.out]
              exact congrArg Ending.returned (rvV_some (by omega) (by omega))
    · have HR : Hid (W.readVar s a = none) := hr.over (by omega)
      go_wp2
      go_ret3
      exact ⟨by rw [HR.out]; rfl, rfl⟩

theorem specReadVar_no (s : ByteArray) (a : Int) (w : World) (h : a < 0 ∨ (s.size : Int) < a) :
    Calls Try.prog 34 #[.string s, .int .i64 a] w fun e w' => e = .returned (.tuple #[.int .i64 0, .int .i64 0, .bool false]) ∧ Below w.heap.size w w' := by
  have h : (decide ((0 : Int) ≤ a) && decide (a ≤ s.size)) = false := by
    rcases h with h | h
    · simp; omega
    · simp; omega
  go_enter Try.func34, Try.ntmps34
  go_wp2_with fail
  refine (l01In_any _ _ _ _).mono ?_
  rw [h]
  rintro e w' ⟨rfl, rfl⟩
  go_wp2_with fail
  go_ret3
  exact ⟨rfl, Below.refl _ _⟩

set_option maxHeartbeats 1000000 in
theorem specReadVar_yes (s : ByteArray) (a : Nat) (w : World) (hs : s.size ≤ 1048576) (ha : a ≤ s.size) :
    Calls Try.prog 34 #[.string s, .int .i64 a] w fun e w' => e = .returned (rvV (W.readVar s a)) ∧ Below w.heap.size w w' := by
  have hb := Go.PlainAid.get_bt s
  have h1 : decide ((0 : Int) ≤ a) = true := by simp
  have h2 : decide ((a : Int) ≤ s.size) = true := by simp; omega
  go_enter Try.func34, Try.ntmps34
  go_wp2_with fail
  refine (l01In_any _ _ _ _).mono ?_
  rintro e w' ⟨rfl, rfl⟩
  go_wp2_with fail
  go_loop [7, 8, 9] (fun n c i => ∃ (j : Nat) (nn sc : Int), n = .int .i64 nn ∧ c = .int .i64 sc ∧ i = .int .i64 j ∧ W.RvRel s a j nn sc) (fun _ _ i => s.size - (intOf i).toNat)
  case atStart => exact ⟨a, 0, 1, rfl, rfl, rfl, W.RvRel.start s a ha⟩
  case round =>
    obtain ⟨j, nn, sc, rfl, rfl, rfl, hr⟩ := hrel
    obtain ⟨n0, n1, s0, s1, j0, j1, j2⟩ := hr.bounds
    by_cases hj : j < s.size
    · have b0 := Go.PlainAid.bt_nonneg s j
      have b1 := Go.PlainAid.bt_le s j
      by_cases hsc : j < a + 5
      · have hsc1 : sc ≤ 1000000000 := by have := hr.five.1; omega
        have p0 : 0 ≤ bt s j % 128 * sc := Int.mul_nonneg (by omega) (by omega)
        have p1 : bt s j % 128 * sc ≤ 127 * 1000000000 := Int.mul_le_mul (by omega) (by omega) (by omega) (by omega)
        by_cases hbb : bt s j < 128
        · obtain ⟨q1, q2⟩ := hr.same hj hsc1 (by omega)
          by_cases hm : 1000000000 < nn + bt s j % 128 * sc
          · have HR : Hid (W.readVar s a = none) := q1 hm
            clear q1 q2
            have hmd : decide (1000000000 < nn + bt s j % 128 * sc) = true := by simpa using hm
            go_wp2_with fail
            go_quiet (fail)
            go_wp2_with fail
            go_ret3
            exact ⟨by rw [HR.out]; rfl, below_drewN (Below.refl _ _) _⟩
          · have HR : Hid _ := q2 (by omega)
            clear q1 q2
            have hmd : decide (1000000000 < nn + bt s j % 128 * sc) = false := by simpa using hm
            have hp0 : (0 : Int) ≤ nn + bt s j % 128 * sc := by omega
            have hp1 : nn + bt s j % 128 * sc ≤ 1099511627776 := by omega
            have hj1 : (0 : Int) ≤ (a : Int) := by omega
            have hj2 : (a : Int) ≤ (j : Int) + 1 := by omega
            have hj3 : (j : Int) + 1 ≤ (s.size : Int) := by omega
            have hwr : IntKind.i64.wrap ((j : Int) + 1) = (j : Int) + 1 := IntWalk.i64_in _ ⟨by omega, by omega⟩
            have hsl := slice_str s a (j + 1) (by omega) (by omega)
            rw [show ((j + 1 : Nat) : Int) = (j : Int) + 1 from by omega] at hsl
            go_wp2_with fail
            go_region_held3 (fun _ => True) (exact trivial) ((go_at_call 35; refine (l01Var_int _ _ hp0 hp1).mono ?_; rintro e w1 ⟨rfl, hb1⟩))
            all_goals go_wp2_with fail
            · have hne : (!W.vt (nn + bt s j % 128 * sc).toNat == (s.extract a (j + 1)).toList) = true := by assumption
              go_ret3
              refine ⟨?_, Below.trans (Below.drew (Below.refl _ _)) hb1⟩
              rw [HR.out, if_neg (by rw [← Go.ByteArray.toList_eq]; simpa using hne)]
              rfl
            · have heq : (!W.vt (nn + bt s j % 128 * sc).toNat == (s.extract a (j + 1)).toList) = false := by assumption
              go_ret3
              refine ⟨?_, Below.trans (Below.drew (Below.refl _ _)) hb1⟩
              rw [HR.out, if_pos (by rw [← Go.ByteArray.toList_eq]; simpa using heq)]
              exact congrArg Ending.returned (rvV_some (by omega) (by omega))
        · have hn := (hr.head hj hsc1 (by omega)).2
          go_wp2
          go_round
          case rel => exact ⟨j + 1, _, _, rfl, rfl, by go_num, hn⟩
          case measure => simp [intOf]; omega
      · have HR : Hid (W.readVar s a = none) := hr.five.2 (by have := hr.five.1; omega)
        go_wp2
        go_ret3
        exact ⟨by rw [HR.out]; rfl, Below.refl _ _⟩
    · have HR : Hid (W.readVar s a = none) := hr.over (by omega)
      go_wp2
      go_ret3
      exact ⟨by rw [HR.out]; rfl, Below.refl _ _⟩

theorem readVarI_bounds {s : ByteArray} {a : Int} {m p : Nat} (h : readVarI s a = some (m, p)) : m ≤ 1000000000 ∧ p ≤ s.size := by
  unfold readVarI at h
  split at h
  · rename_i ha
    exact W.readVar_bounds (by omega) h
  · simp at h
theorem implReadVar (s : ByteArray) (a : Int) (w : World) (hs : s.size ≤ 1048576) :
    Calls Try.prog 52 #[.string s, .int .i64 a] w fun e w' => e = .returned (rvV (readVarI s a)) ∧ w' = w := by
  by_cases h : 0 ≤ a ∧ a ≤ s.size
  · obtain ⟨n, rfl⟩ := Int.eq_ofNat_of_zero_le h.1
    have e : readVarI s n = W.readVar s n := by unfold readVarI; rw [if_pos h]; rfl
    rw [e]; exact implReadVar_yes s n w hs (by omega)
  · have e : readVarI s a = none := by unfold readVarI; rw [if_neg h]
    rw [e]; exact implReadVar_no s a w (by omega)
theorem specReadVar (s : ByteArray) (a : Int) (w : World) (hs : s.size ≤ 1048576) :
    Calls Try.prog 34 #[.string s, .int .i64 a] w fun e w' => e = .returned (rvV (readVarI s a)) ∧ Below w.heap.size w w' := by
  by_cases h : 0 ≤ a ∧ a ≤ s.size
  · obtain ⟨n, rfl⟩ := Int.eq_ofNat_of_zero_le h.1
    have e : readVarI s n = W.readVar s n := by unfold readVarI; rw [if_pos h]; rfl
    rw [e]; exact specReadVar_yes s n w hs (by omega)
  · have e : readVarI s a = none := by unfold readVarI; rw [if_neg h]
    rw [e]; exact specReadVar_no s a w (by omega)
end Go.Proofs.Ytdglbakdianjkaa
/- ReadShort: The walks of the two ReadShort: each returns what 'readShortI' says. -/
namespace Go.Proofs.Ytdglbakdianjkaa
open Go.RowKit

def rsV : Option (ByteArray × Nat) → Value
  | none => .tuple #[.string ⟨#[]⟩, .int .i64 0, .bool false]
  | some (t, p) => .tuple #[.string t, .int .i64 p, .bool true]
theorem rsV_form : ∀ x, ∃ (t : ByteArray) (q : Int) (b : Bool), rsV x = .tuple #[.string t, .int .i64 q, .bool b]
  | none => ⟨⟨#[]⟩, 0, false, rfl⟩
  | some (t, p) => ⟨t, p, true, rfl⟩
def readShortI (s : ByteArray) (a : Int) : Option (ByteArray × Nat) :=
  match readVarI s a with
  | none => none
  | some (n, p) => if n ≤ 20000 ∧ p + n ≤ s.size then some (s.extract p (p + n), p + n) else none

theorem strClone (s : ByteArray) (w : World) (h : s.size ≤ 281474976710656) :
    Calls Try.prog 57 #[.string s] w fun e w' => e = .returned (.string s) ∧ Below w.heap.size w w' := by
  go_enter Try.func57, Try.ntmps57
  go_wp2_with fail
  refine (Try.stringslite_Clone s _ h).mono ?_
  rintro e w1 ⟨rfl, hb⟩
  go_wp2_with fail
  go_ret
  exact ⟨rfl, hb⟩

set_option maxHeartbeats 400000 in
theorem implReadShort (s : ByteArray) (a : Int) (w : World) (hs : s.size ≤ 1048576) :
    Calls Try.prog 51 #[.string s, .int .i64 a] w fun e w' => e = .returned (rsV (readShortI s a)) ∧ Below w.heap.size w w' := by
  have hc := implReadVar s a w hs
  unfold readShortI
  cases hv : readVarI s a with
  | none =>
    rw [hv] at hc
    have hc' : Calls Try.prog 52 #[.string s, .int .i64 a] w fun e w' => e = .returned (.tuple #[.int .i64 0, .int .i64 0, .bool false]) ∧ w' = w := hc
    have HC : Hid _ := hc'
    clear hc hc' hv
    go_enter Try.func51, Try.ntmps51
    go_wp2_with fail
    refine Calls.mono HC.out ?_
    rintro e w' ⟨rfl, rfl⟩
    go_wp2_with fail
    go_ret3
    exact ⟨rfl, Below.refl _ _⟩
  | some x =>
    obtain ⟨n, p⟩ := x
    obtain ⟨hn, hp⟩ := readVarI_bounds hv
    rw [hv] at hc
    have hc' : Calls Try.prog 52 #[.string s, .int .i64 a] w fun e w' => e = .returned (.tuple #[.int .i64 n, .int .i64 p, .bool true]) ∧ w' = w := hc
    have HC : Hid _ := hc'
    clear hc hc' hv
    show Calls _ _ _ _ fun e w' => e = .returned (rsV (if n ≤ 20000 ∧ p + n ≤ s.size then some (s.extract p (p + n), p + n) else none)) ∧ _
    by_cases h1 : 20000 < n
    · rw [if_neg (by omega)]
      go_enter Try.func51, Try.ntmps51
      go_wp2_with fail
      refine Calls.mono HC.out ?_
      rintro e w' ⟨rfl, rfl⟩
      go_wp2_with fail
      go_ret3
      exact ⟨rfl, Below.refl _ _⟩
    · by_cases h2 : s.size < p + n
      · rw [if_neg (by omega)]
        go_enter Try.func51, Try.ntmps51
        go_wp2_with fail
        refine Calls.mono HC.out ?_
        rintro e w' ⟨rfl, rfl⟩
        go_wp2_with fail
        go_ret3
        exact ⟨rfl, Below.refl _ _⟩
      · rw [if_pos (by omega)]
        have hsl := slice_str s p (p + n) (by omega) (by omega)
        rw [show ((p + n : Nat) : Int) = (p : Int) + (n : Int) from by omega] at hsl
        have hcl : (s.extract p (p + n)).size ≤ 281474976710656 := by simp; omega
        go_enter Try.func51, Try.ntmps51
        go_wp2_with fail
        refine Calls.mono HC.out ?_
        rintro e w' ⟨rfl, rfl⟩
        go_wp2_with fail
        refine (strClone (s.extract p (p + n)) _ hcl).mono ?_
        rintro e w1 ⟨rfl, hb⟩
        go_wp2_with fail
        go_ret3
        exact ⟨rfl, hb⟩

set_option maxHeartbeats 400000 in
theorem specReadShort (s : ByteArray) (a : Int) (w : World) (hs : s.size ≤ 1048576) :
    Calls Try.prog 33 #[.string s, .int .i64 a] w fun e w' => e = .returned (rsV (readShortI s a)) ∧ Below w.heap.size w w' := by
  have hc := specReadVar s a w hs
  unfold readShortI
  cases hv : readVarI s a with
  | none =>
    rw [hv] at hc
    have hc' : Calls Try.prog 34 #[.string s, .int .i64 a] w fun e w' => e = .returned (.tuple #[.int .i64 0, .int .i64 0, .bool false]) ∧ Below w.heap.size w w' := hc
    have HC : Hid _ := hc'
    clear hc hc' hv
    go_enter Try.func33, Try.ntmps33
    go_wp2_with fail
    refine Calls.mono HC.out ?_
    rintro e w' ⟨rfl, hb0⟩
    go_wp2_with fail
    go_ret3
    exact ⟨rfl, hb0⟩
  | some x =>
    obtain ⟨n, p⟩ := x
    obtain ⟨hn, hp⟩ := readVarI_bounds hv
    rw [hv] at hc
    have hc' : Calls Try.prog 34 #[.string s, .int .i64 a] w fun e w' => e = .returned (.tuple #[.int .i64 n, .int .i64 p, .bool true]) ∧ Below w.heap.size w w' := hc
    have HC : Hid _ := hc'
    clear hc hc' hv
    show Calls _ _ _ _ fun e w' => e = .returned (rsV (if n ≤ 20000 ∧ p + n ≤ s.size then some (s.extract p (p + n), p + n) else none)) ∧ _
    by_cases h1 : 20000 < n
    · rw [if_neg (by omega)]
      go_enter Try.func33, Try.ntmps33
      go_wp2_with fail
      refine Calls.mono HC.out ?_
      rintro e w' ⟨rfl, hb0⟩
      go_wp2_with fail
      go_ret3
      exact ⟨rfl, hb0⟩
    · by_cases h2 : s.size < p + n
      · rw [if_neg (by omega)]
        go_enter Try.func33, Try.ntmps33
        go_wp2_with fail
        refine Calls.mono HC.out ?_
        rintro e w' ⟨rfl, hb0⟩
        go_wp2_with fail
        go_ret3
        exact ⟨rfl, hb0⟩
      · rw [if_pos (by omega)]
        have hsl := slice_str s p (p + n) (by omega) (by omega)
        rw [show ((p + n : Nat) : Int) = (p : Int) + (n : Int) from by omega] at hsl
        go_enter Try.func33, Try.ntmps33
        go_wp2_with fail
        refine Calls.mono HC.out ?_
        rintro e w' ⟨rfl, hb0⟩
        go_wp2_with fail
        go_ret3
        exact ⟨rfl, hb0⟩
end Go.Proofs.Ytdglbakdianjkaa
/- EdE: The model's ReadEdit. -/
namespace Go.Proofs.Ytdglbakdianjkaa
open Go.RowKit
open Go.PlainAid (bt)
attribute [local go_sem ↓] Go.wp_at_zero Go.wp_at_succ

/-- What ReadShort hands back, apart. -/
def r3 (o : Option (ByteArray × Nat)) : ByteArray × Nat × Bool := match o with
  | none => (⟨#[]⟩, 0, false)
  | some (t, p) => (t, p, true)
theorem rsV_r3 (o : Option (ByteArray × Nat)) : rsV o = .tuple #[.string (r3 o).1, .int .i64 ((r3 o).2.1 : Nat), .bool (r3 o).2.2] := by cases o <;> rfl
/-- What ReadVar hands back, apart. -/
def n3 (o : Option (Nat × Nat)) : Nat × Nat × Bool := match o with
  | none => (0, 0, false)
  | some (t, p) => (t, p, true)
theorem rvV_n3 (o : Option (Nat × Nat)) : rvV o = .tuple #[.int .i64 ((n3 o).1 : Nat), .int .i64 ((n3 o).2.1 : Nat), .bool (n3 o).2.2] := by cases o <;> rfl
/-- The three parts of a record's text. -/
def part1 (s : ByteArray) : ByteArray × Nat × Bool := r3 (readShortI s 2)
def part2 (s : ByteArray) : ByteArray × Nat × Bool := r3 (readShortI s ((part1 s).2.1 : Nat))
def part3 (s : ByteArray) : Nat × Nat × Bool := n3 (readVarI s ((part2 s).2.1 : Nat))
/-- The record that a text would be of. -/
def wouldE (s : ByteArray) : EM := ⟨bt s 0, (part1 s).1, (part2 s).1, ((part3 s).1 : Nat), bt s 1⟩
/-- Whether it is. -/
def isE (s : ByteArray) : Bool := decide (2 ≤ s.size) && (part1 s).2.2 && (part2 s).2.2 && (part3 s).2.2 && editOk (wouldE s) && decide (editT (wouldE s) = s)
def zeroE : EM := ⟨0, ⟨#[]⟩, ⟨#[]⟩, 0, 0⟩
def readE (s : ByteArray) : EM × Bool := if isE s then (wouldE s, true) else (zeroE, false)
theorem short_size (s : ByteArray) (a : Int) : (r3 (readShortI s a)).1.size ≤ 20000 := by
  unfold readShortI
  cases readVarI s a with
  | none => exact Nat.zero_le _
  | some x =>
    obtain ⟨n, p⟩ := x
    dsimp only
    split
    · rename_i h
      simp only [r3, ByteArray.size_extract]
      omega
    · exact Nat.zero_le _
/-- Two records in their boxes. -/
def R2 (w0 w : World) (A B : Nat) (X Y : EM) : Prop := WCells w A (ecells X) ∧ WCells w B (ecells Y) ∧ A ≠ B ∧ w0.heap.size ≤ A ∧ w0.heap.size ≤ B ∧ Below w0.heap.size w0 w
theorem R2.below {w0 w w' : World} {A B : Nat} {X Y : EM} (h : R2 w0 w A B X Y) (hb : Below w.heap.size w w') : R2 w0 w' A B X Y :=
  ⟨h.1.grow hb, h.2.1.grow hb, h.2.2.1, h.2.2.2.1, h.2.2.2.2.1, h.2.2.2.2.2.trans (hb.mono h.2.2.2.2.2.size)⟩
theorem R2.set {w0 w : World} {A B : Nat} {X Y Z : EM} (h : R2 w0 w A B X Y) (i : Nat) (v : Value) (hi : i < 5) (hz : (ecells Y).set i v = ecells Z) : R2 w0 (w.setCell ⟨B, i, none⟩ v) A B X Z :=
  ⟨h.1.other _ _ h.2.2.1, by rw [← hz]; exact h.2.1.set i v (by rw [ecells_len]; exact hi), h.2.2.1, h.2.2.2.1, h.2.2.2.2.1, h.2.2.2.2.2.setCell h.2.2.2.2.1 _⟩
theorem R2.swap {w0 w : World} {A B : Nat} {X Y : EM} (h : R2 w0 w A B X Y) : R2 w0 w B A Y X := ⟨h.2.1, h.1, Ne.symm h.2.2.1, h.2.2.2.2.1, h.2.2.2.1, h.2.2.2.2.2⟩
theorem R2.got {w0 w : World} {A B : Nat} {X Y : EM} (h : R2 w0 w A B X Y) (i : Nat) (v : Value) (hv : (ecells Y)[i]? = some v) : w.cell? ⟨B, i, none⟩ = some v ∧ w.frozen? ⟨B, i, none⟩ = false := h.2.1.2 i v hv
/-- A record written into a box. -/
def put5 (w : World) (A : Nat) (X : EM) : World := ((((w.setCell ⟨A, 0, none⟩ (.int .i64 X.kind)).setCell ⟨A, 1, none⟩ (.string X.path)).setCell ⟨A, 2, none⟩ (.string X.dest)).setCell ⟨A, 3, none⟩ (.int .i64 X.num)).setCell ⟨A, 4, none⟩ (.int .i64 X.who)
theorem R2.put {w0 w : World} {A B : Nat} {X Y : EM} (h : R2 w0 w A B X Y) (Z : EM) : R2 w0 (put5 w A Z) A B Z Y :=
  ((((((h.swap).set (Z := ⟨Z.kind, X.path, X.dest, X.num, X.who⟩) 0 _ (by omega) rfl).set (Z := ⟨Z.kind, Z.path, X.dest, X.num, X.who⟩) 1 _ (by omega) rfl).set (Z := ⟨Z.kind, Z.path, Z.dest, X.num, X.who⟩) 2 _ (by omega) rfl).set (Z := ⟨Z.kind, Z.path, Z.dest, Z.num, X.who⟩) 3 _ (by omega) rfl).set (Z := Z) 4 _ (by omega) rfl).swap
theorem str_neE {a b : ByteArray} (h : a ≠ b) : (a.toList == b.toList) = false := by
  rw [ByteArray.toList_eq, ByteArray.toList_eq, beq_eq_false_iff_ne]
  exact fun e => h (ByteArray.ext (Array.toList_inj.1 e))
theorem bt_wrap (s : ByteArray) (k : Nat) : wrap64 (bt s k) = bt s k := by
  have h : 0 ≤ bt s k ∧ bt s k ≤ 255 := by
    unfold bt
    split
    · rename_i h
      have := (s[k]'h).toNat_lt
      omega
    · omega
  unfold wrap64
  omega
set_option maxHeartbeats 1000000 in
theorem specReadEdit (s : ByteArray) (w : World) (hs : s.size ≤ 1048576) : Calls Try.prog 14 #[.string s] w fun r w' => r = .returned (.tuple #[ev (readE s).1, .bool (readE s).2]) ∧ Below w.heap.size w w' := by
  by_cases h2 : s.size < 2
  · have he : readE s = (zeroE, false) := by
      unfold readE isE
      rw [decide_eq_false (by omega)]
      rfl
    rw [he]
    have h2' : (s.size : Int) < 2 := by omega
    go_enter Try.func14, Try.ntmps14
    go_wp2_with fail
    refine bodyPost_ret (v := .tuple #[ev zeroE, .bool false]) (by simp [results, Try.results14, go_sem, zeroE]) rfl ⟨rfl, ?_⟩
    exact (Below.refl _ _).alloc (Nat.le_refl _) _
  · have HS1 := Shut.mk (fun W => specReadShort s 2 W hs)
    have HS2 := Shut.mk (fun W => specReadShort s ((part1 s).2.1 : Nat) W hs)
    have HS3 := Shut.mk (fun W => specReadVar s ((part2 s).2.1 : Nat) W hs)
    have HT := Shut.mk (fun W => specEditText (wouldE s) W ⟨Nat.le_trans (short_size s _) (by omega), Nat.le_trans (short_size s _) (by omega)⟩)
    simp only [rsV_r3] at HS1 HS2
    simp only [rvV_n3] at HS3
    change Shut (∀ W, Calls Try.prog 33 #[.string s, .int .i64 2] W fun e w' => e = .returned (.tuple #[.string (part1 s).1, .int .i64 ((part1 s).2.1 : Nat), .bool (part1 s).2.2]) ∧ Below W.heap.size W w') at HS1
    change Shut (∀ W, Calls Try.prog 33 #[.string s, .int .i64 ((part1 s).2.1 : Nat)] W fun e w' => e = .returned (.tuple #[.string (part2 s).1, .int .i64 ((part2 s).2.1 : Nat), .bool (part2 s).2.2]) ∧ Below W.heap.size W w') at HS2
    change Shut (∀ W, Calls Try.prog 34 #[.string s, .int .i64 ((part2 s).2.1 : Nat)] W fun e w' => e = .returned (.tuple #[.int .i64 ((part3 s).1 : Nat), .int .i64 ((part3 s).2.1 : Nat), .bool (part3 s).2.2]) ∧ Below W.heap.size W w') at HS3
    have HRE : Shut (readE s = if (part1 s).2.2 && (part2 s).2.2 && (part3 s).2.2 && editOk (wouldE s) && decide (editT (wouldE s) = s) then (wouldE s, true) else (zeroE, false)) := ⟨by unfold readE isE; rw [decide_eq_true (by omega), Bool.true_and]⟩
    obtain ⟨E, hE⟩ : ∃ E, E = wouldE s := ⟨_, rfl⟩
    have hE0 : E.kind = bt s 0 := by rw [hE]; rfl
    have hE1 : E.path = (part1 s).1 := by rw [hE]; rfl
    have hE2 : E.dest = (part2 s).1 := by rw [hE]; rfl
    have hE3 : E.num = ((part3 s).1 : Nat) := by rw [hE]; rfl
    have hE4 : E.who = bt s 1 := by rw [hE]; rfl
    rw [← hE] at HT HRE
    rw [← hE1] at HS1
    rw [← hE2] at HS2
    rw [← hE3] at HS3
    clear hE hE1 hE2 hE3
    generalize (part1 s).2.1 = a1 at HS1 HS2
    generalize (part2 s).2.1 = a2 at HS2 HS3
    generalize (part3 s).2.1 = a3 at HS3
    generalize (part1 s).2.2 = b1 at HS1 HRE
    generalize (part2 s).2.2 = b2 at HS2 HRE
    generalize (part3 s).2.2 = b3 at HS3 HRE
    obtain ⟨BK, hBK⟩ : ∃ BK, BK = (if editOk E then editT E else ⟨#[]⟩) := ⟨_, rfl⟩
    have hBT : editOk E = true → BK = editT E := fun h => by rw [hBK, if_pos h]
    rw [← hBK] at HT
    clear hBK
    generalize editOk E = b4 at HT HRE hBT
    have HBT := Shut.mk hBT
    clear hBT
    have hb := Go.PlainAid.get_bt s
    obtain ⟨kind, path, dest, num, who⟩ := E
    dsimp only at *
    subst hE0 hE4
    have h2' : ¬ ((s.size : Int) < 2) := by omega
    have h3' : (0 : Int) < s.size := by omega
    have h4' : (1 : Int) < s.size := by omega
    have h3 : 0 < s.size := by omega
    have h4 : 1 < s.size := by omega
    have hw0 := bt_wrap s 0
    have hw1 := bt_wrap s 1
    go_enter Try.func14, Try.ntmps14
    go_upto_region 3 with fail
    go_region
    have HR : Shut (R2 w ((w.alloc (.cells #[.int .i64 0, .string ⟨#[]⟩, .string ⟨#[]⟩, .int .i64 0, .int .i64 0] 25)).alloc (.cells #[.int .i64 (bt s 0), .string ⟨#[]⟩, .string ⟨#[]⟩, .int .i64 0, .int .i64 (bt s 1)] 25)).drew w.heap.size (w.heap.size + 1) zeroE ⟨bt s 0, ⟨#[]⟩, ⟨#[]⟩, 0, bt s 1⟩) := by
      refine ⟨⟨((wcells_new w _ _).alloc _).grow (Below.drew (Below.refl _ _)), ?_, by omega, by omega, by omega, (((Below.refl _ _).alloc (Nat.le_refl _) _).alloc (by simp) _).drew⟩⟩
      have q := wcells_new (w.alloc (.cells #[.int .i64 0, .string ⟨#[]⟩, .string ⟨#[]⟩, .int .i64 0, .int .i64 0] 25)) #[.int .i64 (bt s 0), .string ⟨#[]⟩, .string ⟨#[]⟩, .int .i64 0, .int .i64 (bt s 1)] 25
      rw [World.size_alloc] at q
      exact q.grow (Below.drew (Below.refl _ _))
    obtain ⟨W4, hW4⟩ : ∃ W4, W4 = ((w.alloc (.cells #[.int .i64 0, .string ⟨#[]⟩, .string ⟨#[]⟩, .int .i64 0, .int .i64 0] 25)).alloc (.cells #[.int .i64 (bt s 0), .string ⟨#[]⟩, .string ⟨#[]⟩, .int .i64 0, .int .i64 (bt s 1)] 25)).drew := ⟨_, rfl⟩
    rw [← hW4] at HR ⊢
    clear hW4
    go_upto_region 5 with (go_at_call 33; refine (HS1.out _).mono ?_; rintro e w5 ⟨rfl, hb5⟩; have HR2 := Shut.mk (HR.out.below hb5); clear hb5 HR; have HR := HR2; clear HR2)
    go_upto_region 6 with (go_at_call 33; refine (HS2.out _).mono ?_; rintro e w5 ⟨rfl, hb5⟩; have HR2 := Shut.mk (HR.out.below hb5); clear hb5 HR; have HR := HR2; clear HR2)
    go_upto_region 7 with (go_at_call 34; refine (HS3.out _).mono ?_; rintro e w5 ⟨rfl, hb5⟩; have HR2 := Shut.mk (HR.out.below hb5); clear hb5 HR; have HR := HR2; clear HR2)
    have x := HR.out.got 1 _ rfl
    obtain ⟨x0, x1⟩ := x
    go_upto_region 8 with fail
    have HR2 : Shut (R2 w (w5.setCell ⟨w.heap.size + 1, 1, none⟩ (.string path)) w.heap.size (w.heap.size + 1) zeroE ⟨bt s 0, path, ⟨#[]⟩, 0, bt s 1⟩) := ⟨HR.out.set 1 _ (by omega) rfl⟩
    obtain ⟨w6, hw6⟩ : ∃ w6, w6 = w5.setCell ⟨w.heap.size + 1, 1, none⟩ (.string path) := ⟨_, rfl⟩
    rw [← hw6] at HR2 ⊢
    clear hw6 HR x0 x1
    have HR := HR2
    clear HR2
    try clear w5
    obtain ⟨w5, hw5⟩ : ∃ w5, w5 = w6 := ⟨_, rfl⟩
    rw [← hw5] at HR ⊢
    clear hw5
    try clear w6
    have x := HR.out.got 2 _ rfl
    obtain ⟨x0, x1⟩ := x
    go_upto_region 9 with fail
    have HR2 : Shut (R2 w (w5.setCell ⟨w.heap.size + 1, 2, none⟩ (.string dest)) w.heap.size (w.heap.size + 1) zeroE ⟨bt s 0, path, dest, 0, bt s 1⟩) := ⟨HR.out.set 2 _ (by omega) rfl⟩
    obtain ⟨w6, hw6⟩ : ∃ w6, w6 = w5.setCell ⟨w.heap.size + 1, 2, none⟩ (.string dest) := ⟨_, rfl⟩
    rw [← hw6] at HR2 ⊢
    clear hw6 HR x0 x1
    have HR := HR2
    clear HR2
    try clear w5
    obtain ⟨w5, hw5⟩ : ∃ w5, w5 = w6 := ⟨_, rfl⟩
    rw [← hw5] at HR ⊢
    clear hw5
    try clear w6
    have x := HR.out.got 3 _ rfl
    obtain ⟨x0, x1⟩ := x
    go_upto_region 10 with fail
    have HR2 : Shut (R2 w (w5.setCell ⟨w.heap.size + 1, 3, none⟩ (.int .i64 num)) w.heap.size (w.heap.size + 1) zeroE ⟨bt s 0, path, dest, num, bt s 1⟩) := ⟨HR.out.set 3 _ (by omega) rfl⟩
    obtain ⟨w6, hw6⟩ : ∃ w6, w6 = w5.setCell ⟨w.heap.size + 1, 3, none⟩ (.int .i64 num) := ⟨_, rfl⟩
    rw [← hw6] at HR2 ⊢
    clear hw6 HR x0 x1
    have HR := HR2
    clear HR2
    try clear w5
    obtain ⟨w5, hw5⟩ : ∃ w5, w5 = w6 := ⟨_, rfl⟩
    rw [← hw5] at HR ⊢
    clear hw5
    try clear w6
    have c0 := (HR.out.got 0 _ rfl).1
    have c1 := (HR.out.got 1 _ rfl).1
    have c2 := (HR.out.got 2 _ rfl).1
    have c3 := (HR.out.got 3 _ rfl).1
    have c4 := (HR.out.got 4 _ rfl).1
    dsimp only at c0 c1 c2 c3 c4
    go_upto_region 11 with (go_at_call 17; refine (HT.out _).mono ?_; rintro e w7 ⟨rfl, hb7⟩; have HR2 := Shut.mk (HR.out.below hb7); clear hb7 HR c0 c1 c2 c3 c4; have HR := HR2; clear HR2)
    have HB := Shut.mk HR.out.2.2.2.2.2
    obtain ⟨z0, y0⟩ := HR.out.swap.got 0 _ rfl
    obtain ⟨z1, y1⟩ := HR.out.swap.got 1 _ rfl
    obtain ⟨z2, y2⟩ := HR.out.swap.got 2 _ rfl
    obtain ⟨z3, y3⟩ := HR.out.swap.got 3 _ rfl
    obtain ⟨z4, y4⟩ := HR.out.swap.got 4 _ rfl
    cases b1 with
    | false =>
      go_wp2_with fail
      have HP := Shut.mk (HR.out.put zeroE)
      change bodyPost _ _ _ _ _ (put5 w7 w.heap.size zeroE)
      generalize put5 w7 w.heap.size zeroE = w8 at HP ⊢
      obtain ⟨g0, -⟩ := HP.out.swap.got 0 _ rfl
      obtain ⟨g1, -⟩ := HP.out.swap.got 1 _ rfl
      obtain ⟨g2, -⟩ := HP.out.swap.got 2 _ rfl
      obtain ⟨g3, -⟩ := HP.out.swap.got 3 _ rfl
      obtain ⟨g4, -⟩ := HP.out.swap.got 4 _ rfl
      refine bodyPost_ret (v := .tuple #[ev zeroE, .bool false]) (by simp [results, Try.results14, go_sem, g0, g1, g2, g3, g4]) rfl ⟨by rw [HRE.out]; rfl, HP.out.2.2.2.2.2⟩
    | true =>
    cases b2 with
    | false =>
      go_wp2_with fail
      have HP := Shut.mk (HR.out.put zeroE)
      change bodyPost _ _ _ _ _ (put5 w7 w.heap.size zeroE)
      generalize put5 w7 w.heap.size zeroE = w8 at HP ⊢
      obtain ⟨g0, -⟩ := HP.out.swap.got 0 _ rfl
      obtain ⟨g1, -⟩ := HP.out.swap.got 1 _ rfl
      obtain ⟨g2, -⟩ := HP.out.swap.got 2 _ rfl
      obtain ⟨g3, -⟩ := HP.out.swap.got 3 _ rfl
      obtain ⟨g4, -⟩ := HP.out.swap.got 4 _ rfl
      refine bodyPost_ret (v := .tuple #[ev zeroE, .bool false]) (by simp [results, Try.results14, go_sem, g0, g1, g2, g3, g4]) rfl ⟨by rw [HRE.out]; rfl, HP.out.2.2.2.2.2⟩
    | true =>
    cases b3 with
    | false =>
      go_wp2_with fail
      have HP := Shut.mk (HR.out.put zeroE)
      change bodyPost _ _ _ _ _ (put5 w7 w.heap.size zeroE)
      generalize put5 w7 w.heap.size zeroE = w8 at HP ⊢
      obtain ⟨g0, -⟩ := HP.out.swap.got 0 _ rfl
      obtain ⟨g1, -⟩ := HP.out.swap.got 1 _ rfl
      obtain ⟨g2, -⟩ := HP.out.swap.got 2 _ rfl
      obtain ⟨g3, -⟩ := HP.out.swap.got 3 _ rfl
      obtain ⟨g4, -⟩ := HP.out.swap.got 4 _ rfl
      refine bodyPost_ret (v := .tuple #[ev zeroE, .bool false]) (by simp [results, Try.results14, go_sem, g0, g1, g2, g3, g4]) rfl ⟨by rw [HRE.out]; rfl, HP.out.2.2.2.2.2⟩
    | true =>
    cases b4 with
    | false =>
      go_wp2_with fail
      have HP := Shut.mk (HR.out.put zeroE)
      change bodyPost _ _ _ _ _ (put5 w7 w.heap.size zeroE)
      generalize put5 w7 w.heap.size zeroE = w8 at HP ⊢
      obtain ⟨g0, -⟩ := HP.out.swap.got 0 _ rfl
      obtain ⟨g1, -⟩ := HP.out.swap.got 1 _ rfl
      obtain ⟨g2, -⟩ := HP.out.swap.got 2 _ rfl
      obtain ⟨g3, -⟩ := HP.out.swap.got 3 _ rfl
      obtain ⟨g4, -⟩ := HP.out.swap.got 4 _ rfl
      refine bodyPost_ret (v := .tuple #[ev zeroE, .bool false]) (by simp [results, Try.results14, go_sem, g0, g1, g2, g3, g4]) rfl ⟨by rw [HRE.out]; rfl, HP.out.2.2.2.2.2⟩
    | true =>
    have hbt := HBT.out rfl
    by_cases hbk : BK = s
    · obtain ⟨c0, -⟩ := HR.out.got 0 _ rfl
      obtain ⟨c1, -⟩ := HR.out.got 1 _ rfl
      obtain ⟨c2, -⟩ := HR.out.got 2 _ rfl
      obtain ⟨c3, -⟩ := HR.out.got 3 _ rfl
      obtain ⟨c4, -⟩ := HR.out.got 4 _ rfl
      dsimp only at c0 c1 c2 c3 c4
      have HX := Shut.mk (hbt.symm.trans hbk)
      clear hbt
      subst hbk
      go_wp2_with fail
      have HP := Shut.mk (HR.out.put ⟨bt BK 0, path, dest, num, bt BK 1⟩)
      change bodyPost _ _ _ _ _ (put5 w7 w.heap.size ⟨bt BK 0, path, dest, num, bt BK 1⟩)
      generalize put5 w7 w.heap.size ⟨bt BK 0, path, dest, num, bt BK 1⟩ = w8 at HP ⊢
      obtain ⟨g0, -⟩ := HP.out.swap.got 0 _ rfl
      obtain ⟨g1, -⟩ := HP.out.swap.got 1 _ rfl
      obtain ⟨g2, -⟩ := HP.out.swap.got 2 _ rfl
      obtain ⟨g3, -⟩ := HP.out.swap.got 3 _ rfl
      obtain ⟨g4, -⟩ := HP.out.swap.got 4 _ rfl
      refine bodyPost_ret (v := .tuple #[ev ⟨bt BK 0, path, dest, num, bt BK 1⟩, .bool true]) (by simp [results, Try.results14, go_sem, g0, g1, g2, g3, g4]) rfl ⟨by rw [HRE.out, HX.out]; simp, HP.out.2.2.2.2.2⟩
    · have HX : Shut (decide (editT ⟨bt s 0, path, dest, num, bt s 1⟩ = s) = false) := ⟨decide_eq_false (fun h => hbk (hbt.trans h))⟩
      clear hbt
      have hne : (BK.toList == s.toList) = false := str_neE hbk
      have hne2 : (BK.toList != s.toList) = true := by rw [bne, hne]; rfl
      go_wp2_with fail
      have HP := Shut.mk (HR.out.put zeroE)
      change bodyPost _ _ _ _ _ (put5 w7 w.heap.size zeroE)
      generalize put5 w7 w.heap.size zeroE = w8 at HP ⊢
      obtain ⟨g0, -⟩ := HP.out.swap.got 0 _ rfl
      obtain ⟨g1, -⟩ := HP.out.swap.got 1 _ rfl
      obtain ⟨g2, -⟩ := HP.out.swap.got 2 _ rfl
      obtain ⟨g3, -⟩ := HP.out.swap.got 3 _ rfl
      obtain ⟨g4, -⟩ := HP.out.swap.got 4 _ rfl
      refine bodyPost_ret (v := .tuple #[ev zeroE, .bool false]) (by simp [results, Try.results14, go_sem, g0, g1, g2, g3, g4]) rfl ⟨by rw [HRE.out]; rw [HX.out]; rfl, HP.out.2.2.2.2.2⟩
end Go.Proofs.Ytdglbakdianjkaa
