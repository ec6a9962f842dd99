/- Texts of ours, laid one behind the other: DiskD, DiskQ, KeepA, NestB, NestC, NestD, NestE, NestF, NestG, Words, VarL, MatA. -/
import Derived.Test.YtplcdcfhfaghiaaPa2
import Derived.Deep.AppendLies
import Derived.Deep.RegionLaw
import Derived.BigQuiet
/- DiskD: The model's walks that look for a file, and whether all is kept. -/
namespace Go.Proofs.Ytplcdcfhfaghiaa
set_option maxRecDepth 100000
open Go.RowKit
attribute [local go_sem ↓] Go.wp_at_zero Go.wp_at_succ

theorem str_ne {a b : ByteArray} (h : a ≠ b) : (a.toList == b.toList) = false := by
  rw [ByteArray.toList_eq, ByteArray.toList_eq, beq_eq_false_iff_ne]
  exact fun e => h (ByteArray.ext (Array.toList_inj.1 e))
/-- Where the file of a name is: its place, or -1. -/
def AtR (fs : List FM) (n : ByteArray) (r : Int) : Prop :=
  (r = -1 ∧ ∀ f ∈ fs, f.name ≠ n) ∨ ∃ k : Nat, r = (k : Int) ∧ k < fs.length ∧ (fs.getD k default).name = n ∧ ∀ j, j < k → (fs.getD j default).name ≠ n
def AtPostD (fs : List FM) (n : ByteArray) (w : World) (e : Ending) (w' : World) : Prop := ∃ r : Int, e = .returned (.int .i64 r) ∧ AtR fs n r ∧ Below w.heap.size w w'
set_option maxHeartbeats 1000000 in
theorem l03At_any (a : Option Addr) (fs : List FM) (cap : Nat) (n : ByteArray) (w : World) (hr : FRow w a fs) (hl : fs.length ≤ 1048576) :
    Calls Try.prog 46 #[.agg #[.slice a fs.length cap], .string n] w fun e w' => AtPostD fs n w e w' := by
  have HR : Hid (FRow w a fs) := hr
  have HX : Hid (WCells (w.alloc (.cells #[.slice a fs.length cap] 26)) w.heap.size [.slice a fs.length cap]) := wcells_new w #[.slice a fs.length cap] 26
  have HB0 : Hid (Below w.heap.size w (w.alloc (.cells #[.slice a fs.length cap] 26))) := (Below.refl _ _).alloc (Nat.le_refl _) _
  clear hr
  go_enter Try.func46, Try.ntmps46
  go_wp2_with fail
  go_loopw [5] (fun i wr => ∃ (k : Nat), i = .int .i64 k ∧ k ≤ fs.length ∧ (∀ j, j < k → (fs.getD j default).name ≠ n) ∧ WCells wr w.heap.size [.slice a fs.length cap] ∧ Below w.heap.size w wr) (fun i _ => fs.length - (intOf i).toNat)
  case atStart => exact ⟨0, rfl, Nat.zero_le _, fun j hj => by omega, HX.out, HB0.out⟩
  case round =>
    obtain ⟨k, rfl, hk, hno, hx, hb⟩ := hrel
    have HN : Hid (∀ j, j < k → (fs.getD j default).name ≠ n) := hno
    have x0 := (hx.2 0 _ rfl).1
    have HXX : Hid (WCells wr w.heap.size [.slice a fs.length cap]) := hx
    have HB : Hid (Below w.heap.size w wr) := hb
    clear hno hx
    by_cases hlt : k < fs.length
    · obtain ⟨b, off, rfl, lb, hc⟩ := FRow.at (HR.out.stays hb) (by omega)
      obtain ⟨d0, _, _⟩ := hc k hlt
      obtain ⟨f, hfe⟩ : ∃ f, f = fs[k] := ⟨_, rfl⟩
      rw [← hfe] at d0
      have HFE : Hid (fs.getD k default = f) := (getD_atF fs k hlt).trans hfe.symm
      have k0 : (0 : Int) ≤ (k : Int) := by omega
      have k1 : (k : Int) < (fs.length : Int) := by omega
      clear hfe hb hc
      by_cases hn : f.name = n
      · have HNE : Hid (f.name = n) := hn
        have hq : (f.name.toList == n.toList) = true := by rw [hn]; simp
        clear hn
        go_wp2_with fail
        go_ret
        exact ⟨k, rfl, .inr ⟨k, rfl, hlt, by rw [HFE.out]; exact HNE.out, HN.out⟩, HB.out⟩
      · have hq := str_ne hn
        have HNE : Hid (f.name ≠ n) := hn
        clear hn
        go_wp2_with fail
        go_roundw
        case rel => exact ⟨k + 1, by go_num, by omega, fun j hj => by rcases Nat.lt_succ_iff_lt_or_eq.1 hj with h | h; exact HN.out j h; subst h; rw [HFE.out]; exact HNE.out, HXX.out, HB.out⟩
        case measure => simp [intOf]; omega
    · have e : k = fs.length := by omega
      subst e
      clear hb
      go_wp2_with fail
      go_ret
      refine ⟨-1, rfl, .inl ⟨rfl, fun f hf => ?_⟩, HB.out⟩
      obtain ⟨j, hj, rfl⟩ := List.getElem_of_mem hf
      rw [← getD_atF fs j hj]
      exact HN.out j hj

/-- What FileAt answers. -/
def fileV (fs : List FM) (n : ByteArray) : Value :=
  match fs.find? (fun f => decide (f.name = n)) with
  | none => .tuple #[.string ⟨#[]⟩, .bool false]
  | some f => .tuple #[.string f.text, .bool true]
theorem fileV_none {fs : List FM} {n : ByteArray} (h : ∀ f ∈ fs, f.name ≠ n) : fileV fs n = .tuple #[.string ⟨#[]⟩, .bool false] := by
  unfold fileV
  rw [List.find?_eq_none.2 (fun f hf => by simpa using h f hf)]
theorem fileV_some {fs : List FM} {n : ByteArray} {k : Nat} (hk : k < fs.length) (h1 : (fs.getD k default).name = n) (h2 : ∀ j, j < k → (fs.getD j default).name ≠ n) : fileV fs n = .tuple #[.string (fs.getD k default).text, .bool true] := by
  unfold fileV
  have e : fs.find? (fun f => decide (f.name = n)) = some fs[k] := by
    rw [List.find?_eq_some_iff_getElem]
    refine ⟨by rw [← getD_atF fs k hk]; simpa using h1, k, hk, rfl, fun j hj => ?_⟩
    have := h2 j hj
    rw [getD_atF fs j (by omega)] at this
    simpa using this
  rw [e, getD_atF fs k hk]
end Go.Proofs.Ytplcdcfhfaghiaa
/- DiskQ: The model's walks that make a disk: without a file, with one in its place. -/
namespace Go.Proofs.Ytplcdcfhfaghiaa
set_option maxRecDepth 100000
open Go.RowKit
attribute [local go_sem ↓] Go.wp_at_zero Go.wp_at_succ

/-- A disk that a call has made: its files, in a row of its own. -/
def MadeDisk (fs : List FM) (w : World) (e : Ending) (w' : World) : Prop := ∃ v, e = .returned (.agg #[v]) ∧ w'.ownsRow w.heap.size 55 3 v fs.length (fcs fs) ∧ Below w.heap.size w w'
theorem own_nil (w : World) (B t : Nat) : w.ownsRow B t 3 (.slice none 0 0) 0 [] := ⟨by simp, .inl ⟨rfl, rfl⟩⟩
theorem own_formD {w : World} {B n : Nat} {t : TypeId} {v : Value} {L : List Value} (h : w.ownsRow B t 3 v n L) : ∃ a c, v = .slice a n c := by
  obtain ⟨h1, ⟨rfl, rfl⟩ | ⟨g, cap, cur, e, rest⟩⟩ := h
  · exact ⟨none, 0, rfl⟩
  · exact ⟨_, _, e⟩
theorem own_wider {w : World} {B C n : Nat} {t : TypeId} {v : Value} {L : List Value} (h : w.ownsRow B t 3 v n L) (hC : C ≤ B) : w.ownsRow C t 3 v n L := by
  obtain ⟨h1, h | ⟨g, cap, cur, e, hB, rest⟩⟩ := h
  · exact ⟨h1, .inl h⟩
  · exact ⟨h1, .inr ⟨g, cap, cur, e, Nat.le_trans hC hB, rest⟩⟩
theorem fcs_snoc (ys : List FM) (f : FM) : fcs (ys ++ [f]) = fcs ys ++ [.string f.name, .string f.text, .int .i64 f.kept] := by simp [fcs, fcells]
theorem own_other {w w' : World} {B n g : Nat} {t : TypeId} {v : Value} {L : List Value} (h : w.ownsRow B t 3 v n L) (hg : g < B) (p : Addr) (hp : p.block = g) (x : Value) (e : w' = w.setCell p x) : w'.ownsRow B t 3 v n L := by
  subst e
  refine h.kept (row := some g) ⟨rfl, rfl, rfl, by simp [World.setCell], fun k hk hne => ?_⟩ ?_
  · exact Below.heap_setCell w p x k (fun e => hne (by rw [hp] at e; rw [e]))
  · cases hv : v.ownBlock with
    | none => exact .inl rfl
    | some j => right; have := (h.lt j hv).1; simp; omega
theorem own_belowD {w w' : World} {B n : Nat} {t : TypeId} {v : Value} {L : List Value} (h : w.ownsRow B t 3 v n L) (hb : Below w.heap.size w w') : w'.ownsRow B t 3 v n L :=
  h.kept (row := none) ⟨hb.os, hb.tape, hb.output, hb.size, fun k hk _ => hb.block k hk⟩ (by
    cases hv : v.ownBlock with
    | none => exact .inl rfl
    | some j => right; simp)
theorem cell_grown {w w' : World} {row : Option Nat} (hg : w.grownBy w' row) (p : Addr) (hp : p.block < w.heap.size) (hr : row ≠ some p.block) : w'.cell? p = w.cell? p :=
  World.cell?_of_block (w := w) (hg.block p.block hp (fun e => hr e.symm))
theorem frozen_grown {w w' : World} {row : Option Nat} (hg : w.grownBy w' row) (p : Addr) (hp : p.block < w.heap.size) (hr : row ≠ some p.block) : w'.frozen? p = w.frozen? p :=
  World.frozen?_of_block (w := w) (hg.block p.block hp (fun e => hr e.symm))
/-- A variable's row has grown, and the variable holds it. -/
theorem var_grow {wr w1 : World} {o : Obj} {B gv n m : Nat} {t : TypeId} {v v1 : Value} {L0 L : List Value} (hv : WCells wr gv [v]) (hgv : gv < B) (hown : wr.ownsRow B t 3 v n L0) (hgrow : ((wr.alloc o).drew).grownBy w1 v.ownBlock) (hown1 : w1.ownsRow B t 3 v1 m L) :
    (∀ g X, g < B → g ≠ gv → WCells wr g X → WCells (w1.setCell ⟨gv, 0, none⟩ v1) g X) ∧ WCells (w1.setCell ⟨gv, 0, none⟩ v1) gv [v1] ∧ (w1.setCell ⟨gv, 0, none⟩ v1).ownsRow B t 3 v1 m L ∧
    ∀ C w0, C ≤ gv → Below C w0 wr → Below C w0 (w1.setCell ⟨gv, 0, none⟩ v1) := by
  have hob : ∀ c, c < B → v.ownBlock ≠ some c := fun c hc e => by have := (hown.lt c e).1; omega
  have one : ∀ g X, g < B → WCells wr g X → WCells w1 g X := fun g X hg h => wc_grown (w := (wr.alloc o).drew) (h.alloc o) hgrow (hob g hg)
  refine ⟨fun g X hg hne h => (one g X hg h).other _ _ (by simpa using hne), ?_, own_other hown1 hgv _ rfl _ rfl, fun C w0 hC hb => ?_⟩
  · exact (one gv [v] hgv hv).set 0 v1 (by simp)
  · have h0 := hv.1
    have hb1 : Below C w0 ((wr.alloc o).drew) := (hb.alloc (by omega) o).drew
    exact (hb1.grown hgrow (by simp; omega) (fun j hj => by have := (hown.lt j hj).1; omega)).setCell (by simpa using hC) _
def withoutF (n : ByteArray) (fs : List FM) : List FM := fs.filter (fun f => !decide (f.name = n))
theorem without_step (n : ByteArray) (fs : List FM) (k : Nat) (h : k < fs.length) : withoutF n (fs.take (k + 1)) = withoutF n (fs.take k) ++ (if fs[k].name = n then [] else [fs[k]]) := by
  unfold withoutF
  rw [List.take_succ_eq_append_getElem h, List.filter_append]
  by_cases c : fs[k].name = n <;> simp [c]
theorem without_len (n : ByteArray) (fs : List FM) : (withoutF n fs).length ≤ fs.length := List.length_filter_le _ _
set_option maxHeartbeats 2000000 in
theorem l03Without_any (a : Option Addr) (fs : List FM) (cap : Nat) (n : ByteArray) (w : World) (hr : FRow w a fs) (hl : fs.length ≤ 1048576) :
    Calls Try.prog 47 #[.agg #[.slice a fs.length cap], .string n] w fun e w' => MadeDisk (withoutF n fs) w e w' := by
  obtain ⟨i0, hi, hz0, hz1, hz2⟩ := info_parts infoFile
  have HR : Hid (FRow w a fs) := hr
  have hx0 := ((wcells_new w #[.slice a fs.length cap] 26).alloc (.cells #[.slice none 0 0] 26)).alloc (.cells #[.slice none 0 0] 26)
  have hy0 := (wcells_new (w.alloc (.cells #[.slice a fs.length cap] 26)) #[.slice none 0 0] 26).alloc (.cells #[.slice none 0 0] 26)
  have hv0 := wcells_new ((w.alloc (.cells #[.slice a fs.length cap] 26)).alloc (.cells #[.slice none 0 0] 26)) #[.slice none 0 0] 26
  simp only [World.size_alloc] at hx0 hy0 hv0
  have HX0 : Hid _ := hx0
  have HY0 : Hid _ := hy0
  have HV0 : Hid _ := hv0
  clear hr hx0 hy0 hv0
  go_enter Try.func47, Try.ntmps47
  go_wp2_with fail
  go_loopw [6] (fun i wr => ∃ (k : Nat) (v : Value), i = .int .i64 k ∧ k ≤ fs.length ∧ Shut (WCells wr w.heap.size [.slice a fs.length cap]) ∧ Shut (WCells wr (w.heap.size + 1) [.slice none 0 0]) ∧ Shut (WCells wr (w.heap.size + 1 + 1) [v]) ∧
      wr.ownsRow (w.heap.size + 3) 55 3 v (withoutF n (fs.take k)).length (fcs (withoutF n (fs.take k))) ∧ Below w.heap.size w wr) (fun i _ => fs.length - (intOf i).toNat)
  case atStart => exact ⟨0, .slice none 0 0, rfl, Nat.zero_le _, ⟨HX0.out⟩, ⟨HY0.out⟩, ⟨HV0.out⟩, by simp [withoutF, fcs]; exact own_nil _ _ _, (((Below.refl _ _).alloc (Nat.le_refl _) _).alloc (by simp) _).alloc (by simp; omega) _⟩
  case round =>
    obtain ⟨k, v, rfl, hk, hx, hy, hv, hown, hb⟩ := hrel
    have x0 := (hx.out.2 0 _ rfl).1
    have y0 := (hy.out.2 0 _ rfl)
    have v0 := (hv.out.2 0 _ rfl)
    obtain ⟨vc, vf⟩ := v0
    obtain ⟨yc, yf⟩ := y0
    have HB : Hid (Below w.heap.size w wr) := hb
    by_cases hlt : k < fs.length
    · obtain ⟨b, off, rfl, lb0, hc0⟩ := FRow.at HR.out (by omega)
      obtain ⟨d0, d1, d2⟩ := hc0 k hlt
      rw [← hb.cell (p := ⟨b, off + k * 3, none⟩) lb0] at d0
      rw [← hb.cell (p := ⟨b, off + k * 3 + 1, none⟩) lb0] at d1
      rw [← hb.cell (p := ⟨b, off + k * 3 + 2, none⟩) lb0] at d2
      have hstep := without_step n fs k hlt
      obtain ⟨f, hfe⟩ : ∃ f, f = fs[k] := ⟨_, rfl⟩
      rw [← hfe] at d0 d1 d2 hstep
      have k0 : (0 : Int) ≤ (k : Int) := by omega
      have k1 : (k : Int) < (fs.length : Int) := by omega
      have hlen : (withoutF n (fs.take k)).length ≤ 1048576 := by have := without_len n (fs.take k); simp at this; omega
      clear hfe hc0 hb
      by_cases hn : f.name = n
      · rw [if_pos hn, List.append_nil] at hstep
        have HST : Hid (withoutF n (fs.take (k + 1)) = withoutF n (fs.take k)) := hstep
        have hq : (f.name.toList == n.toList) = true := by rw [hn]; simp
        clear hstep hn
        go_wp2_with fail
        go_roundw
        case rel => exact ⟨k + 1, v, by go_num, by omega, hx, hy, hv, by rw [HST.out]; exact hown, HB.out⟩
        case measure => simp [intOf]; omega
      · rw [if_neg hn] at hstep
        have HST : Hid (withoutF n (fs.take (k + 1)) = withoutF n (fs.take k) ++ [f]) := hstep
        have hq := str_ne hn
        clear hstep hn
        go_wp2_with fail
        have hv1 : w.heap.size + 1 + 1 < wr.heap.size := hv.out.1
        have hx1 : w.heap.size < wr.heap.size := hx.out.1
        have lb1 : b < wr.heap.size := by omega
        have hob : ∀ c, c < w.heap.size + 3 → v.ownBlock ≠ some c := fun c hc e => by have := (hown.lt c e).1; omega
        have nb : v.ownBlock ≠ some b := hob b (by omega)
        have nx : v.ownBlock ≠ some w.heap.size := hob _ (by omega)
        have nv : v.ownBlock ≠ some (w.heap.size + 1 + 1) := hob _ (by omega)
        have m1 : w.heap.size + 1 + 1 ≠ b := by omega
        have m2 : w.heap.size + 1 + 1 ≠ w.heap.size := by omega
        clear hob
        go_region_law ((refine step_append_lies _ (by rfl) _ _ _ (by rfl) (w.heap.size + 3) 55 i0 _ 3 40 Try.underlying24 hi hz0 hz1 hz2 rfl (by omega) _ _ _ (by rfl) ((hown.alloc _).drew) ⟨wr.heap.size, 0, none⟩ 1 1 [.string f.name, .string f.text, .int .i64 f.kept] (by rfl) (by rfl) (World.news_of_block (cs := #[.string f.name, .string f.text, .int .i64 f.kept]) (t := 55) (fr := (0, 0)) (heap_alloc_new wr _)) (by simp [Value.oneCell']) (by omega) (by unfold maxLen; omega) (by omega) (by simp; omega) (wr.heap.size + 1) (by simp) ?_; intro gg cap1 w1 hown1 hgrow hat hlt'; have vc1 := (cell_grown hgrow ⟨w.heap.size + 1 + 1, 0, none⟩ (by simp; omega) nv).trans ((hv.out.alloc _).2 0 _ rfl).1; have vf1 := (frozen_grown hgrow ⟨w.heap.size + 1 + 1, 0, none⟩ (by simp; omega) nv).trans ((hv.out.alloc _).2 0 _ rfl).2))
        all_goals go_wp2_with fail
        all_goals
          obtain ⟨u1, u2, u3, u4⟩ := var_grow hv.out (show w.heap.size + 1 + 1 < w.heap.size + 3 by omega) hown hgrow hown1
          refine ⟨⟨k + 1, _, by go_num, by omega, ⟨u1 _ _ (by omega) (by omega) hx.out⟩, ⟨u1 _ _ (by omega) (by omega) hy.out⟩, ⟨u2⟩, ?_, u4 _ _ (by omega) HB.out⟩, by simp [intOf]; omega⟩
          rw [HST.out, fcs_snoc, List.length_append]
          exact u3
    · have e : k = fs.length := by omega
      subst e
      rw [List.take_length] at hown
      clear hb
      obtain ⟨va, vcap, rfl⟩ := own_formD hown
      go_wp2_with fail
      show bodyPost Try.prog Try.f47 _ Exit.ret _ _
      refine bodyPost_ret (v := .agg #[.slice va (withoutF n fs).length vcap]) (by simp [results, Try.results47, go_sem, yc]) rfl ⟨_, rfl, ?_, HB.out.setCell (by simp) _⟩
      exact own_wider (own_other hown (show w.heap.size + 1 < w.heap.size + 3 by omega) _ rfl _ rfl) (by omega)
end Go.Proofs.Ytplcdcfhfaghiaa
/- KeepA: Small functions of the laws on files: a drawn name, beginnings, numbers of what is left, disks that are the same. -/
namespace Go.Proofs.Ytplcdcfhfaghiaa
set_option maxRecDepth 100000
open Go.RowKit
attribute [local go_sem ↓] Go.wp_at_zero Go.wp_at_succ

/-- A drawn name. -/
def NamePost (w : World) (g B : Nat) (a : Option Addr) (len cap : Nat) (e : Ending) (w' : World) : Prop :=
  ∃ t : ByteArray, e = .returned (.string t) ∧ 1 ≤ t.size ∧ t.size ≤ 8 ∧ Cur w' g B a len cap ∧ w.grownBy w' (some g)
set_option maxHeartbeats 400000 in
theorem l01Pick_any (w : World) (g B : Nat) (a : Option Addr) (len cap : Nat) (gl m : Nat) (hm : 0 < m) (hm2 : m ≤ 1000) (hne : gl ≠ g) (hl : ∀ j, j < m → ∃ y : ByteArray, w.cell? ⟨gl, j, none⟩ = some (.string y) ∧ 1 ≤ y.size ∧ y.size ≤ 8) (hc : Cur w g B a len cap) :
    Calls Try.prog 33 #[.pointer (some ⟨g, 0, none⟩), .slice (some ⟨gl, 0, none⟩) m m] w fun e w' => NamePost w g B a len cap e w' := by
  have HC : Hid (Cur w g B a len cap) := hc
  have HL : Hid (∀ j, j < m → ∃ y : ByteArray, w.cell? ⟨gl, j, none⟩ = some (.string y) ∧ 1 ≤ y.size ∧ y.size ≤ 8) := hl
  clear hc hl
  go_enter Try.func33, Try.ntmps33
  go_wp2_with fail
  refine (l01Below_any _ g B a len cap m (by omega) HC.out).mono ?_
  rintro e w1 ⟨x, rfl, x0, x1, hc1, hg1⟩
  have HC1 : Hid (Cur w1 g B a len cap) := hc1
  have HG : Hid (w.grownBy w1 (some g)) := hg1
  obtain ⟨j, rfl⟩ := Int.eq_ofNat_of_zero_le x0
  obtain ⟨y, hy, y1, y2⟩ := HL.out j (by omega)
  have c1 := hg1.cell hy (by simp; omega)
  have j1 : (j : Int) < (m : Int) := by omega
  clear hc1 hg1 hy
  go_wp2_with fail
  go_ret
  exact ⟨y, rfl, y1, y2, HC1.out, HG.out⟩
theorem eight_names (w : World) (t : TypeId) (y0 y1 y2 y3 y4 y5 y6 y7 : ByteArray) (h : ∀ y ∈ [y0, y1, y2, y3, y4, y5, y6, y7], 1 ≤ y.size ∧ y.size ≤ 8) (j : Nat) (hj : j < 8) :
    ∃ y : ByteArray, (w.alloc (.cells #[.string y0, .string y1, .string y2, .string y3, .string y4, .string y5, .string y6, .string y7] t)).cell? ⟨w.heap.size, j, none⟩ = some (.string y) ∧ 1 ≤ y.size ∧ y.size ≤ 8 := by
  rw [World.cell?_alloc_mark]
  match j, hj with
  | 0, _ => exact ⟨y0, rfl, h _ (by simp)⟩
  | 1, _ => exact ⟨y1, rfl, h _ (by simp)⟩
  | 2, _ => exact ⟨y2, rfl, h _ (by simp)⟩
  | 3, _ => exact ⟨y3, rfl, h _ (by simp)⟩
  | 4, _ => exact ⟨y4, rfl, h _ (by simp)⟩
  | 5, _ => exact ⟨y5, rfl, h _ (by simp)⟩
  | 6, _ => exact ⟨y6, rfl, h _ (by simp)⟩
  | 7, _ => exact ⟨y7, rfl, h _ (by simp)⟩
theorem l03Named_any (w : World) (g B : Nat) (a : Option Addr) (len cap : Nat) (hc : Cur w g B a len cap) :
    Calls Try.prog 31 #[.pointer (some ⟨g, 0, none⟩)] w fun e w' => NamePost w g B a len cap e w' := by
  have HC : Hid (Cur w g B a len cap) := hc
  have hgl := hc.2.1
  clear hc
  go_enter Try.func31, Try.ntmps31
  go_wp2_with fail
  refine (l01Pick_any _ g B a len cap w.heap.size 8 (by decide) (by decide) (by omega) (eight_names w _ _ _ _ _ _ _ _ _ (by decide)) (HC.out.below ((Below.refl _ _).alloc (Nat.le_refl _) _))).mono ?_
  rintro e w1 ⟨t, rfl, t1, t2, hc1, hg1⟩
  have HC1 : Hid (Cur w1 g B a len cap) := hc1
  have HG : Hid (w.grownBy w1 (some g)) := gb_two (gb_below ((Below.refl _ _).alloc (Nat.le_refl _) _)) hg1
  clear hc1 hg1
  go_wp2_with fail
  go_ret
  exact ⟨t, rfl, t1, t2, HC1.out, HG.out⟩
end Go.Proofs.Ytplcdcfhfaghiaa
/- NestB: Rows of rows of numbers: the laws' own copies, sizes, comparisons and marks. -/
namespace Go.Proofs.Ytplcdcfhfaghiaa
set_option maxRecDepth 100000
open Go.RowKit
attribute [local go_sem ↓] Go.wp_at_zero Go.wp_at_succ

theorem infoRow : (Try.prog.info? 28).map (fun i => (i.zero, i.size, i.bytes)) = some (some (.slice none 0 0), 1, 24) := by kernel_rfl
/-- Where the copy of a row of rows stands. -/
structure TI (w wr : World) (ss : List SR) (ts : List SR) : Prop where
  rweq : rws ts = rws (ss.take ts.length)
  out : WCells wr w.heap.size (svs ts ++ List.replicate (ss.length - ts.length) (.slice none 0 0))
  rows : ∀ s ∈ ts, ∃ b, s.loc = some ⟨b, 0, none⟩ ∧ w.heap.size ≤ b ∧ b < wr.heap.size ∧ b ≠ w.heap.size ∧ WCells wr b (ics s.row) ∧ s.row.length ≤ s.cap
  apart : (ts.map SR.loc).Nodup
  bel : Below w.heap.size w wr
theorem set_mid (A B : List Value) (x y : Value) (k : Nat) (h : A.length = k) : (A ++ x :: B).set k y = A ++ y :: B := by
  subst h
  rw [List.set_append_right _ _ (Nat.le_refl _)]
  simp
theorem TI.next {w wr w1 : World} {ss ts : List SR} {g1 : Nat} {row : List Int} {n : Nat} (h : TI w wr ss ts) (hk : ts.length < ss.length) (hrow : (ss[ts.length]).row = row) (hn : n = row.length) (hw : w.heap.size < wr.heap.size)
    (hg1 : wr.heap.size ≤ g1) (hc : WCells w1 g1 (ics row)) (hb : Below wr.heap.size wr w1) : TI w (w1.setCell ⟨w.heap.size, ts.length, none⟩ (.slice (some ⟨g1, 0, none⟩) n n)) ss (ts ++ [SR.mk (some ⟨g1, 0, none⟩) row row.length]) := by
  subst hn
  have hne : g1 ≠ w.heap.size := by omega
  have hsz : (w1.setCell ⟨w.heap.size, ts.length, none⟩ (.slice (some ⟨g1, 0, none⟩) row.length row.length)).heap.size = w1.heap.size := by simp [World.setCell]
  have hgs : w1.grownBy (w1.setCell ⟨w.heap.size, ts.length, none⟩ (.slice (some ⟨g1, 0, none⟩) row.length row.length)) (some w.heap.size) := gb_set' _ _ _ _
  refine ⟨?_, ?_, ?_, ?_, ?_⟩
  · rw [rws_snoc, h.rweq, List.length_append, List.length_singleton, List.take_succ_eq_append_getElem hk, rws_snoc, hrow]
  · have o := (h.out.below hb h.out.1).set ts.length (.slice (some ⟨g1, 0, none⟩) row.length row.length) (by rw [List.length_append, svs_len, List.length_replicate]; omega)
    obtain ⟨m, hm⟩ : ∃ m, ss.length - ts.length = m + 1 := ⟨ss.length - ts.length - 1, by omega⟩
    rw [hm, List.replicate_succ, set_mid _ _ _ _ _ (svs_len ts)] at o
    have e : svs (ts ++ [SR.mk (some ⟨g1, 0, none⟩) row row.length]) ++ List.replicate (ss.length - (ts ++ [SR.mk (some ⟨g1, 0, none⟩) row row.length]).length) (.slice none 0 0) = svs ts ++ .slice (some ⟨g1, 0, none⟩) row.length row.length :: List.replicate m (.slice none 0 0) := by
      rw [List.length_append, List.length_singleton, show ss.length - (ts.length + 1) = m by omega]
      simp [svs, srv]
    rw [e]
    exact o
  · intro s hs
    rcases List.mem_append.1 hs with h1 | h1
    · obtain ⟨b, e, q1, q2, q3, q4, q5⟩ := h.rows s h1
      exact ⟨b, e, q1, by rw [hsz]; exact Nat.lt_of_lt_of_le q2 hb.size, q3, (q4.below hb q4.1).apart hgs q3, q5⟩
    · simp at h1
      subst h1
      exact ⟨g1, rfl, by omega, by rw [hsz]; exact hc.1, hne, hc.apart hgs hne, Nat.le_refl _⟩
  · rw [List.map_append, List.nodup_append]
    refine ⟨h.apart, by simp, fun l hl l' hl' => ?_⟩
    obtain ⟨s, hs, rfl⟩ := List.mem_map.1 hl
    simp only [List.map_cons, List.map_nil, List.mem_singleton] at hl'
    subst hl'
    obtain ⟨b, e, _, q2, _⟩ := h.rows s hs
    rw [e]
    intro e2
    have e4 : b = g1 := congrArg Addr.block (Option.some.inj e2)
    omega
  · exact (h.bel.trans (hb.mono h.bel.size)).setCell (p := ⟨w.heap.size, ts.length, none⟩) (Nat.le_refl _) _
theorem TI.fin {w wr : World} {ss ts : List SR} (h : TI w wr ss ts) (hl : ts.length = ss.length) : rws ts = rws ss ∧ MW wr w.heap.size ts w.heap.size wr.heap.size := by
  refine ⟨by rw [h.rweq, hl, List.take_of_length_le (Nat.le_refl _)], ?_, Nat.le_refl _, h.out.1, h.rows, h.apart⟩
  have := h.out
  rwa [hl, Nat.sub_self, List.replicate_zero, List.append_nil] at this
/-- What a copy of a row of rows is. -/
def ToRows (ss : List SR) (w : World) (e : Ending) (w' : World) : Prop :=
  ∃ g ts, e = .returned (.slice (some ⟨g, 0, none⟩) ss.length ss.length) ∧ List.length (α := SR) ts = ss.length ∧ rws ts = rws ss ∧ MW w' g ts w.heap.size w'.heap.size ∧ Below w.heap.size w w'
/-- The size of rows of numbers, as the laws count it. -/
def msum : List SR → Nat
  | [] => 0
  | s :: ss => s.row.length + msum ss
theorem msum_take (ss : List SR) (k : Nat) (h : k < ss.length) : msum (ss.take (k + 1)) = msum (ss.take k) + ss[k].row.length := by
  induction ss generalizing k with
  | nil => simp at h
  | cons s ss ih =>
    cases k with
    | zero => simp [msum]
    | succ k =>
      have := ih k (by simpa using h)
      simp only [List.take_succ_cons, msum, this, List.getElem_cons_succ]
      omega
theorem msum_le (ss : List SR) (k : Nat) : msum (ss.take k) ≤ msum ss := by
  induction ss generalizing k with
  | nil => simp [msum]
  | cons s ss ih =>
    cases k with
    | zero => simp [msum]
    | succ k => have := ih k; simp only [List.take_succ_cons, msum]; omega
theorem msum_mem {ss : List SR} {s : SR} (h : s ∈ ss) : s.row.length ≤ msum ss := by
  induction ss with
  | nil => simp at h
  | cons t ss ih =>
    rcases List.mem_cons.1 h with rfl | h
    · simp only [msum]; omega
    · have := ih h; simp only [msum]; omega
/-- What is left of the room: or a number below 0. -/
def SzRows (left : Int) (n : Nat) (w : World) (e : Ending) (w' : World) : Prop := ∃ r : Int, e = .returned (.int .i64 r) ∧ w' = w ∧ ((n : Int) ≤ left → r = left - n) ∧ (left < n → r < 0)
end Go.Proofs.Ytplcdcfhfaghiaa
/- NestC: Rows of rows of numbers: the laws' own comparisons, marks that are laid into one, and found again. -/
namespace Go.Proofs.Ytplcdcfhfaghiaa
set_option maxRecDepth 100000
open Go.RowKit
attribute [local go_sem ↓] Go.wp_at_zero Go.wp_at_succ

end Go.Proofs.Ytplcdcfhfaghiaa
/- NestD: Rows of rows of numbers: marks that are laid into all of them, and found again. -/
namespace Go.Proofs.Ytplcdcfhfaghiaa
set_option maxRecDepth 100000
open Go.RowKit
attribute [local go_sem ↓] Go.wp_at_zero Go.wp_at_succ

/-- One row of a row of rows is written anew. -/
theorem MW.setRow {w w' : World} {g : Nat} {ss : List SR} {lo hi : Nat} (h : MW w g ss lo hi) {i b : Nat} (hi' : i < ss.length) (hloc : ss[i].loc = some ⟨b, 0, none⟩) {row : List Int} (hlen : row.length = ss[i].row.length)
    (hg : w.grownBy w' (some b)) (hc : WCells w' b (ics row)) : MW w' g (ss.set i { ss[i] with row := row }) lo hi := by
  obtain ⟨b', e', q1, q2, q3, _, q5⟩ := h.rows ss[i] (List.getElem_mem hi')
  obtain rfl : b' = b := congrArg Addr.block (Option.some.inj (e'.symm.trans hloc))
  have hmap : (ss.set i { ss[i] with row := row }).map SR.loc = ss.map SR.loc := by
    rw [List.map_set]
    show (ss.map SR.loc).set i ss[i].loc = _
    rw [show ss[i].loc = (ss.map SR.loc)[i]'(by simpa using hi') by simp, List.set_getElem_self]
  have hsv : svs (ss.set i { ss[i] with row := row }) = svs ss := by
    unfold svs
    rw [List.map_set]
    have : srv { ss[i] with row := row } = (ss.map srv)[i]'(by simpa using hi') := by simp [srv, hlen]
    rw [this, List.set_getElem_self]
  refine ⟨?_, h.glo, h.ghi, fun s hs => ?_, by rw [hmap]; exact h.apart⟩
  · rw [hsv]; exact h.out.apart hg (Ne.symm q3)
  · obtain ⟨j, hj, rfl⟩ := List.mem_iff_getElem.1 hs
    rw [List.length_set] at hj
    by_cases e : i = j
    · subst e
      rw [List.getElem_set_self]
      exact ⟨b', hloc, q1, q2, q3, hc, by show row.length ≤ ss[i].cap; omega⟩
    · rw [List.getElem_set_ne e]
      obtain ⟨c, f, p1, p2, p3, p4, p5⟩ := h.rows ss[j] (List.getElem_mem hj)
      refine ⟨c, f, p1, p2, p3, p4.apart hg ?_, p5⟩
      intro ec
      subst ec
      have hn := h.apart
      rw [List.nodup_iff_pairwise_ne, List.pairwise_iff_getElem] at hn
      rcases Nat.lt_or_gt_of_ne e with h1 | h1
      · have := hn i j (by simpa using hi') (by simpa using hj) h1
        simp at this
        exact this (e'.trans f.symm)
      · have := hn j i (by simpa using hj) (by simpa using hi') h1
        simp at this
        exact this (f.trans e'.symm)
/-- A row of rows that is marked from k on. -/
structure Marked (k : Nat) (ss ts : List SR) (j : Nat) : Prop where
  len : ts.length = ss.length
  same : ∀ i (h : i < ss.length), ts[i].loc = ss[i].loc ∧ ts[i].cap = ss[i].cap ∧ ts[i].row.length = ss[i].row.length
  marks : ∀ i (h : i < ss.length), i < j → ts[i].row = marksI (k + msum (ss.take i)) ss[i].row.length
theorem Marked.start (k : Nat) (ss : List SR) : Marked k ss ss 0 := ⟨rfl, fun _ _ => ⟨rfl, rfl, rfl⟩, fun i _ h => by omega⟩
theorem Marked.next {k : Nat} {ss ts : List SR} {j : Nat} (h : Marked k ss ts j) (hj : j < ss.length) : Marked k ss (ts.set j { ts[j]'(by rw [h.len]; exact hj) with row := marksI (k + msum (ss.take j)) ss[j].row.length }) (j + 1) := by
  have hj' : j < ts.length := by rw [h.len]; exact hj
  refine ⟨by rw [List.length_set]; exact h.len, fun i hi => ?_, fun i hi hij => ?_⟩
  · by_cases e : j = i
    · subst e
      rw [List.getElem_set_self]
      exact ⟨(h.same j hj).1, (h.same j hj).2.1, by rw [marksI_len]⟩
    · rw [List.getElem_set_ne e]; exact h.same i hi
  · by_cases e : j = i
    · subst e
      rw [List.getElem_set_self]
    · rw [List.getElem_set_ne e]; exact h.marks i hi (by omega)
end Go.Proofs.Ytplcdcfhfaghiaa
/- NestE: Rows of rows of numbers as values: what is seen of one, what an answer is, what is marked, and the laws' own functions over them. -/
namespace Go.Proofs.Ytplcdcfhfaghiaa
set_option maxRecDepth 100000
open Go.RowKit

/-- How many numbers there are. -/
def xsum : List (List Int) → Nat
  | [] => 0
  | x :: X => x.length + xsum X
theorem msum_rws (ss : List SR) : msum ss = xsum (rws ss) := by
  induction ss with
  | nil => rfl
  | cons s ss ih => simp only [msum, rws, List.map_cons, xsum]; rw [ih]; rfl
theorem xsum_mem {X : List (List Int)} {x : List Int} (h : x ∈ X) : x.length ≤ xsum X := by
  induction X with
  | nil => simp at h
  | cons t X ih =>
    rcases List.mem_cons.1 h with rfl | h
    · simp only [xsum]; omega
    · have := ih h; simp only [xsum]; omega
/-- A value that is these rows of numbers. -/
def MSee (w : World) (v : Value) (X : List (List Int)) (lo hi : Nat) : Prop := ∃ (a : Option Addr) (cap : Nat) (ss : List SR), v = .slice a ss.length cap ∧ rws ss = X ∧ MR w a ss lo hi
/-- A value that was marked from k on, where it was these rows of numbers. -/
def MHeld (w : World) (v : Value) (k : Nat) (X : List (List Int)) (lo hi : Nat) : Prop := ∃ (a : Option Addr) (cap : Nat) (ss ts : List SR), v = .slice a ss.length cap ∧ rws ss = X ∧ Marked k ss ts ss.length ∧ MR w a ts lo hi
theorem MAns.see {w : World} {v : Value} {X : List (List Int)} {lo hi : Nat} (h : MAns w v X lo hi) : MSee w v X lo hi := by
  obtain ⟨a, cap, ss, e, hr, _, h1⟩ := h
  refine ⟨a, cap, ss, e, hr, ?_⟩
  rcases h1 with rfl | ⟨g, rfl, hm⟩
  · exact MR.nil _ _ _ _
  · exact hm.mr
theorem MSee.turned {w w' : World} {v : Value} {X : List (List Int)} {lo hi lo' hi' : Nat} (h : MSee w v X lo hi) (t : Turned w w' lo' hi') (hd : hi ≤ lo' ∨ hi' ≤ lo) : MSee w' v X lo hi := by
  obtain ⟨a, cap, ss, e, hr, h1⟩ := h
  exact ⟨a, cap, ss, e, hr, h1.turned t hd⟩
theorem MSee.below {w w' : World} {v : Value} {X : List (List Int)} {lo hi : Nat} (h : MSee w v X lo hi) (hb : Below w.heap.size w w') : MSee w' v X lo hi := by
  obtain ⟨a, cap, ss, e, hr, h1⟩ := h
  exact ⟨a, cap, ss, e, hr, h1.below hb⟩
theorem MSee.wide {w : World} {v : Value} {X : List (List Int)} {lo hi lo' hi' : Nat} (h : MSee w v X lo hi) (h1 : lo' ≤ lo) (h2 : hi ≤ hi') : MSee w v X lo' hi' := by
  obtain ⟨a, cap, ss, e, hr, q⟩ := h
  exact ⟨a, cap, ss, e, hr, q.wide h1 h2⟩
theorem MHeld.turned {w w' : World} {v : Value} {k : Nat} {X : List (List Int)} {lo hi lo' hi' : Nat} (h : MHeld w v k X lo hi) (t : Turned w w' lo' hi') (hd : hi ≤ lo' ∨ hi' ≤ lo) : MHeld w' v k X lo hi := by
  obtain ⟨a, cap, ss, ts, e, hr, hm, h1⟩ := h
  exact ⟨a, cap, ss, ts, e, hr, hm, h1.turned t hd⟩
theorem MHeld.below {w w' : World} {v : Value} {k : Nat} {X : List (List Int)} {lo hi : Nat} (h : MHeld w v k X lo hi) (hb : Below w.heap.size w w') : MHeld w' v k X lo hi := by
  obtain ⟨a, cap, ss, ts, e, hr, hm, h1⟩ := h
  exact ⟨a, cap, ss, ts, e, hr, hm, h1.below hb⟩
theorem MAns.turned {w w' : World} {v : Value} {X : List (List Int)} {lo hi lo' hi' : Nat} (h : MAns w v X lo hi) (t : Turned w w' lo' hi') (hd : hi ≤ lo' ∨ hi' ≤ lo) : MAns w' v X lo hi := by
  obtain ⟨a, cap, ss, e, hr, hc, h1⟩ := h
  refine ⟨a, cap, ss, e, hr, hc, ?_⟩
  rcases h1 with rfl | ⟨g, rfl, hm⟩
  · exact .inl rfl
  · exact .inr ⟨g, rfl, hm.turned t hd⟩
theorem MAns.below {w w' : World} {v : Value} {X : List (List Int)} {lo hi : Nat} (h : MAns w v X lo hi) (hb : Below w.heap.size w w') : MAns w' v X lo hi := by
  obtain ⟨a, cap, ss, e, hr, hc, h1⟩ := h
  refine ⟨a, cap, ss, e, hr, hc, ?_⟩
  rcases h1 with rfl | ⟨g, rfl, hm⟩
  · exact .inl rfl
  · exact .inr ⟨g, rfl, hm.below hb⟩
/-- What an answer of rows of numbers is: new memory alone. -/
def MPost (X : List (List Int)) (w : World) (e : Ending) (w' : World) : Prop := ∃ v, e = .returned v ∧ MAns w' v X w.heap.size w'.heap.size ∧ Below w.heap.size w w'
/-- Rows that a machine can hold. -/
def MFit (X : List (List Int)) : Prop := X.length + xsum X ≤ 1048576
theorem rows_fit {ss : List SR} {X : List (List Int)} (hr : rws ss = X) (hf : MFit X) : ss.length ≤ 1048576 ∧ (∀ s ∈ ss, s.row.length ≤ 1048576) ∧ msum ss = xsum X ∧ xsum X ≤ 1048576 := by
  have h1 : ss.length = X.length := by rw [← hr, rws_len]
  have h2 : msum ss = xsum X := by rw [msum_rws, hr]
  have h3 := hf
  unfold MFit at h3
  exact ⟨by omega, fun s hs => by have := msum_mem hs; omega, h2, by omega⟩
end Go.Proofs.Ytplcdcfhfaghiaa
/- NestF: A row of rows of numbers that is made row by row, by append. -/
namespace Go.Proofs.Ytplcdcfhfaghiaa
set_option maxRecDepth 100000
open Go.RowKit

/-- A row of numbers is not the row of rows. -/
theorem row_apart {w : World} {b B t n : Nat} {v : Value} {row : List Int} {ts : List SR} (h : WCells w b (ics row)) (hr : row ≠ []) (ho : w.ownsRow B t 1 v n (svs ts)) (hts : ts ≠ []) : v.ownBlock ≠ some b := by
  intro e
  have hc := ho.cells e
  obtain ⟨x, r, rfl⟩ := List.exists_cons_of_ne_nil hr
  obtain ⟨s, t', rfl⟩ := List.exists_cons_of_ne_nil hts
  have h1 := (h.2 0 (.int .i64 x) rfl).1
  have h2 := hc 0 (srv s) rfl
  have e2 : (⟨b, 0, none⟩ : Addr).add 0 = ⟨b, 0, none⟩ := by simp [Addr.add]
  rw [e2, h1] at h2
  simp [srv] at h2
/-- Where the making of a row of rows stands. -/
structure BI (w wr : World) (v : Value) (ts : List SR) : Prop where
  own : wr.ownsRow w.heap.size 28 1 v ts.length (svs ts)
  rows : ∀ s ∈ ts, ∃ b, s.loc = some ⟨b, 0, none⟩ ∧ w.heap.size ≤ b ∧ WCells wr b (ics s.row) ∧ s.row.length ≤ s.cap ∧ s.row ≠ []
  apart : (ts.map SR.loc).Nodup
  bel : Below w.heap.size w wr
theorem BI.start (w : World) {wr : World} {v : Value} (ho : wr.ownsRow w.heap.size 28 1 v 0 []) (hb : Below w.heap.size w wr) : BI w wr v [] := ⟨ho, by simp, List.nodup_nil, hb⟩
theorem BI.below {w wr w' : World} {v : Value} {ts : List SR} (h : BI w wr v ts) (hb : Below wr.heap.size wr w') : BI w w' v ts :=
  ⟨h.own.kept (row := none) ⟨hb.os, hb.tape, hb.output, hb.size, fun k hk _ => hb.block k hk⟩ (Classical.em _), fun s hs => by
    obtain ⟨b, e, q1, q2, q3⟩ := h.rows s hs
    exact ⟨b, e, q1, q2.below hb q2.1, q3⟩, h.apart, h.bel.trans (hb.mono h.bel.size)⟩
/-- A block beyond is turned. -/
theorem BI.other {w wr w' : World} {v : Value} {ts : List SR} {B g : Nat} (h : BI w wr v ts) (hg : wr.grownBy w' (some g)) (hB : B ≤ g) (ho : ∀ q, v.ownBlock = some q → q < B) (hr : ∀ s ∈ ts, ∀ b, s.loc = some ⟨b, 0, none⟩ → b < B) (hw : w.heap.size ≤ B) (hs : w.heap.size ≤ wr.heap.size) : BI w w' v ts := by
  refine ⟨h.own.kept hg (.inr fun e => by have := ho g e; omega), fun s hs' => ?_, h.apart, h.bel.grown hg hs (fun k e => by cases e; omega)⟩
  obtain ⟨b, e, q1, q2, q3⟩ := h.rows s hs'
  exact ⟨b, e, q1, q2.apart hg (by have := hr s hs' b e; omega), q3⟩
theorem BI.append {w wr w1 : World} {v v' : Value} {ts : List SR} {o : Obj} {b : Nat} {row : List Int} {cap : Nat} (h : BI w wr v ts) (hb : w.heap.size ≤ b) (hrow : WCells wr b (ics row)) (hne : row ≠ []) (hcap : row.length ≤ cap)
    (hv : ∀ q, v.ownBlock = some q → q ≠ b) (hnew : ∀ s ∈ ts, s.loc ≠ some ⟨b, 0, none⟩)
    (hown : w1.ownsRow w.heap.size 28 1 v' (ts.length + 1) (svs ts ++ [.slice (some ⟨b, 0, none⟩) row.length cap])) (hg : (wr.alloc o).grownBy w1 v.ownBlock) : BI w w1 v' (ts ++ [SR.mk (some ⟨b, 0, none⟩) row cap]) := by
  have keep : ∀ {c : Nat} {L : List Value}, WCells wr c L → (∀ q, v.ownBlock = some q → q ≠ c) → WCells w1 c L := fun {c L} hc hq => by
    have h1 : WCells (wr.alloc o) c L := hc.below ((Below.refl wr.heap.size wr).alloc (Nat.le_refl _) o) hc.1
    refine ⟨Nat.lt_of_lt_of_le h1.1 hg.size, fun i u hu => ?_⟩
    have hbk : w1.heap[c]? = (wr.alloc o).heap[c]? := hg.block c h1.1 (fun e => hq c e.symm rfl)
    exact ⟨(World.cell?_of_block (a := ⟨c, i, none⟩) hbk).trans (h1.2 i u hu).1, (World.frozen?_of_block (a := ⟨c, i, none⟩) hbk).trans (h1.2 i u hu).2⟩
  refine ⟨?_, fun s hs => ?_, ?_, (h.bel.alloc h.bel.size o).grown hg (by have := h.bel.size; simp; omega) (fun k e => (h.own.lt k e).1)⟩
  · have e : svs (ts ++ [SR.mk (some ⟨b, 0, none⟩) row cap]) = svs ts ++ [.slice (some ⟨b, 0, none⟩) row.length cap] := by simp [svs, srv]
    rw [e, List.length_append]
    exact hown
  · rcases List.mem_append.1 hs with h1 | h1
    · obtain ⟨c, e, q1, q2, q3, q4⟩ := h.rows s h1
      refine ⟨c, e, q1, keep q2 (fun q hq => ?_), q3, q4⟩
      have := row_apart q2 q4 h.own (List.ne_nil_of_mem h1)
      intro e2; subst e2; exact this hq
    · simp at h1
      subst h1
      exact ⟨b, rfl, hb, keep hrow hv, hcap, hne⟩
  · rw [List.map_append, List.nodup_append]
    refine ⟨h.apart, by simp, fun l hl l' hl' => ?_⟩
    obtain ⟨s, hs, rfl⟩ := List.mem_map.1 hl
    simp only [List.map_cons, List.map_nil, List.mem_singleton] at hl'
    subst hl'
    exact hnew s hs
theorem BI.fin {w wr : World} {v : Value} {ts : List SR} {X : List (List Int)} (h : BI w wr v ts) (hX : rws ts = X) : MAns wr v X w.heap.size wr.heap.size := by
  have hlt := h.own.lt
  have hown := h.own
  obtain ⟨_, ⟨rfl, h0⟩ | ⟨g, cap, cur, rfl, hB, hcur, hn, _⟩⟩ := hown
  · have : ts = [] := List.eq_nil_of_length_eq_zero h0
    subst this
    exact ⟨none, 0, [], rfl, hX, Nat.le_refl _, .inl rfl⟩
  · refine ⟨_, cap, ts, rfl, hX, hn, ?_⟩
    by_cases hts : ts = []
    · exact .inl hts
    · refine .inr ⟨g, rfl, own_wcells h.own, hB, (hlt g rfl).2, fun s hs => ?_, h.apart⟩
      obtain ⟨b, e, q1, q2, q3, q4⟩ := h.rows s hs
      refine ⟨b, e, q1, q2.1, fun eb => ?_, q2, q3⟩
      subst eb
      exact row_apart q2 q4 h.own hts rfl
end Go.Proofs.Ytplcdcfhfaghiaa
/- NestG: A row of rows of numbers that is made row by row, while one block (a cursor) is turned. -/
namespace Go.Proofs.Ytplcdcfhfaghiaa
set_option maxRecDepth 100000
open Go.RowKit

/-- A world's first blocks. -/
def cutW (w : World) (n : Nat) : World := { w with heap := w.heap.extract 0 n }
theorem cutW_size {w : World} {n : Nat} (h : n ≤ w.heap.size) : (cutW w n).heap.size = n := by simp [cutW]; omega
theorem cutW_below {w : World} {n : Nat} (h : n ≤ w.heap.size) : Below (cutW w n).heap.size (cutW w n) w := by
  rw [cutW_size h]
  refine ⟨rfl, rfl, rfl, by rw [cutW_size h]; exact h, fun k hk => ?_⟩
  show w.heap[k]? = (w.heap.extract 0 n)[k]?
  rw [Array.getElem?_extract]
  simp
  intro h2
  omega
/-- Where the making of a row of rows stands, while block g (older) is turned. -/
structure BJ (w wr : World) (g : Nat) (v : Value) (ts : List SR) : Prop where
  own : wr.ownsRow w.heap.size 28 1 v ts.length (svs ts)
  rows : ∀ s ∈ ts, ∃ b, s.loc = some ⟨b, 0, none⟩ ∧ w.heap.size ≤ b ∧ WCells wr b (ics s.row) ∧ s.row.length ≤ s.cap ∧ s.row ≠ []
  apart : (ts.map SR.loc).Nodup
  gb : w.grownBy wr (some g)
theorem BJ.bi {w wr : World} {g : Nat} {v : Value} {ts : List SR} (h : BJ w wr g v ts) : BI (cutW wr w.heap.size) wr v ts := by
  have hs := h.gb.size
  refine ⟨by rw [cutW_size hs]; exact h.own, fun s hs' => by rw [cutW_size hs]; exact h.rows s hs', h.apart, cutW_below hs⟩
theorem BJ.of {w wr w0 : World} {g : Nat} {v : Value} {ts : List SR} (h : BI w0 wr v ts) (e : w0.heap.size = w.heap.size) (hg : w.grownBy wr (some g)) : BJ w wr g v ts :=
  ⟨by rw [← e]; exact h.own, fun s hs => by rw [← e]; exact h.rows s hs, h.apart, hg⟩
theorem BJ.drawn {w wr w' : World} {g : Nat} {v : Value} {ts : List SR} (h : BJ w wr g v ts) (hg : wr.grownBy w' (some g)) (hgw : g < w.heap.size) : BJ w w' g v ts :=
  ⟨h.own.kept hg (.inr fun e => by have := (h.own.lt g e).1; omega), fun s hs => by
    obtain ⟨b, e, q1, q2, q3⟩ := h.rows s hs
    exact ⟨b, e, q1, q2.apart hg (by omega), q3⟩, h.apart, gb_two h.gb hg⟩
theorem BJ.fin {w wr : World} {g : Nat} {v : Value} {ts : List SR} {X : List (List Int)} (h : BJ w wr g v ts) (hX : rws ts = X) : MAns wr v X w.heap.size wr.heap.size := by
  have := h.bi.fin hX
  rw [cutW_size h.gb.size] at this
  exact this
theorem BJ.append {w wr w1 : World} {g : Nat} {v v' : Value} {ts : List SR} {o : Obj} {b : Nat} {row : List Int} {cap : Nat} (h : BJ w wr g v ts) (hb : w.heap.size ≤ b) (hrow : WCells wr b (ics row)) (hne : row ≠ []) (hcap : row.length ≤ cap)
    (hv : ∀ q, v.ownBlock = some q → q ≠ b) (hnew : ∀ s ∈ ts, s.loc ≠ some ⟨b, 0, none⟩)
    (hown : w1.ownsRow w.heap.size 28 1 v' (ts.length + 1) (svs ts ++ [.slice (some ⟨b, 0, none⟩) row.length cap])) (hg : (wr.alloc o).grownBy w1 v.ownBlock) : BJ w w1 g v' (ts ++ [SR.mk (some ⟨b, 0, none⟩) row cap]) := by
  have hs := cutW_size h.gb.size
  have := h.bi.append (cap := cap) (by rw [hs]; exact hb) hrow hne hcap hv hnew (by rw [hs]; exact hown) hg
  refine BJ.of this hs ?_
  have h1 : w.grownBy (wr.alloc o) (some g) := gb_two h.gb (gb_below ((Below.refl wr.heap.size wr).alloc (Nat.le_refl _) o))
  refine ⟨hg.os.trans h1.os, hg.tape.trans h1.tape, hg.output.trans h1.output, Nat.le_trans h1.size hg.size, fun k hk hkg => ?_⟩
  refine (hg.block k (Nat.lt_of_lt_of_le hk h1.size) (fun e => ?_)).trans (h1.block k hk hkg)
  have := (h.own.lt k e.symm).1
  omega
end Go.Proofs.Ytplcdcfhfaghiaa
/- Words: Plain facts on the bytes of numbers: the bytes of a number by sevens of bits are told by 'vt', the number that bytes begin by 'rv'; nothing of the program is read here. -/
namespace Go.Proofs.Ytplcdcfhfaghiaa.W
/-- The bytes of a number, by sevens of bits, with fuel. -/
def vtF : Nat → Nat → List UInt8
  | 0, n => [UInt8.ofNat n]
  | f + 1, n => if 127 < n then UInt8.ofNat (n % 128 + 128) :: vtF f (n / 128) else [UInt8.ofNat n]
def vt (n : Nat) : List UInt8 := vtF n n
theorem vtF_enough : ∀ (f g n : Nat), n ≤ f → n ≤ g → vtF f n = vtF g n
  | 0, 0, n, _, _ => rfl
  | 0, g + 1, n, h, _ => by have : n = 0 := (by omega); subst this; simp [vtF]
  | f + 1, 0, n, _, h => by have : n = 0 := (by omega); subst this; simp [vtF]
  | f + 1, g + 1, n, h1, h2 => by
    unfold vtF
    by_cases h : 127 < n
    · rw [if_pos h, if_pos h, vtF_enough f g (n / 128) (by omega) (by omega)]
    · rw [if_neg h, if_neg h]
theorem vt_big (n : Nat) (h : 127 < n) : vt n = UInt8.ofNat (n % 128 + 128) :: vt (n / 128) := by
  unfold vt
  match n, h with
  | k + 1, h =>
    rw [vtF, if_pos h, vtF_enough k ((k + 1) / 128) ((k + 1) / 128) (by omega) (by omega)]
theorem vt_small (n : Nat) (h : n ≤ 127) : vt n = [UInt8.ofNat n] := by
  unfold vt
  match n with
  | 0 => rfl
  | k + 1 => rw [vtF, if_neg (by omega)]
theorem vt_len (n : Nat) : (vt n).length ≤ n + 1 := by
  suffices h : ∀ f m, (vtF f m).length ≤ f + 1 from h n n
  intro f
  induction f with
  | zero => intro m; simp [vtF]
  | succ f ih =>
    intro m
    unfold vtF
    split
    · have := ih (m / 128); simp; omega
    · simp

/-- The number of bytes by sevens: each with its high bit left off. -/
def val : List UInt8 → Nat
  | [] => 0
  | b :: l => b.toNat % 128 + 128 * val l

/-- All but the last are 128 or more. -/
def heads (l : List UInt8) : Prop := ∀ b ∈ l, 128 ≤ b.toNat

theorem ofNat_self (b : UInt8) : UInt8.ofNat b.toNat = b := by simp

theorem vt_one (b : UInt8) (h : b.toNat < 128) : vt b.toNat = [b] := by
  rw [vt_small _ (by omega)]; simp

theorem val_pos : ∀ (l : List UInt8) (b : UInt8), b.toNat < 128 → b ≠ 0 → 0 < val (l ++ [b])
  | [], b, h, h0 => by
    have : b.toNat ≠ 0 := fun e => h0 (by have := UInt8.toNat_inj (a := b) (b := 0); simp at this; exact this.1 e)
    simp [val]; omega
  | c :: l, b, h, h0 => by
    have := val_pos l b h h0
    simp [val]; omega

/-- The bytes of the number of some bytes are those bytes, where they have no needless nought at the end. -/
theorem vt_val : ∀ (l : List UInt8) (b : UInt8), heads l → b.toNat < 128 → (l = [] ∨ b ≠ 0) → vt (val (l ++ [b])) = l ++ [b]
  | [], b, _, hb, _ => by
    have : val ([] ++ [b]) = b.toNat := by simp [val]; omega
    rw [this]; exact vt_one b hb
  | c :: l, b, hl, hb, h0 => by
    have h0 : b ≠ 0 := by rcases h0 with h | h; cases h; exact h
    have hc : 128 ≤ c.toNat := hl c (by simp)
    have ih := vt_val l b (fun x hx => hl x (by simp [hx])) hb (.inr h0)
    have hp := val_pos l b hb h0
    have hlt := c.toNat_lt
    have e : val (c :: l ++ [b]) = c.toNat % 128 + 128 * val (l ++ [b]) := rfl
    rw [e, vt_big _ (by omega)]
    have e1 : (c.toNat % 128 + 128 * val (l ++ [b])) % 128 + 128 = c.toNat := by omega
    have e2 : (c.toNat % 128 + 128 * val (l ++ [b])) / 128 = val (l ++ [b]) := by omega
    rw [e1, e2, ih]; simp

/-- With a needless nought at the end they are not. -/
theorem vt_last : ∀ (f n : Nat), n ≤ f → 0 < n → (vtF f n).getLast? ≠ some 0
  | 0, n, h, h' => by omega
  | f + 1, n, h, h' => by
    unfold vtF
    by_cases hb : 127 < n
    · rw [if_pos hb]
      have ih := vt_last f (n / 128) (by omega) (by omega)
      have hne : vtF f (n / 128) ≠ [] := by cases f <;> simp [vtF] <;> split <;> simp
      rw [List.getLast?_cons_of_ne_nil hne]
      exact ih
    · rw [if_neg hb]
      simp
      intro e
      have := congrArg UInt8.toNat e
      simp at this
      omega
theorem vt_not (l : List UInt8) (hl : l ≠ []) : vt (val (l ++ [0])) ≠ l ++ [0] := by
  intro e
  by_cases h : val (l ++ [0]) = 0
  · rw [h] at e
    have := congrArg List.length e
    simp [vt, vtF] at this
    exact hl this
  · have := vt_last _ _ (Nat.le_refl (val (l ++ [0]))) (by omega)
    unfold vt at e
    rw [e] at this
    simp at this

/-- What stands behind some bytes: the number that they begin, its weight, whether none has come yet, the bytes that are left, their place. -/
def rv : Nat → Nat → Bool → List UInt8 → Nat → Option (Nat × Nat)
  | _, _, _, [], _ => none
  | n, w, first, b :: l, p =>
    if 1000000000 < w then none
    else if 127 < b.toNat then rv (n + (b.toNat - 128) * w) (w * 128) false l (p + 1)
    else if b.toNat = 0 ∧ first = false then none
    else if 1000000000 < n + b.toNat * w then none
    else some (n + b.toNat * w, p + 1)

theorem val_snoc : ∀ (l : List UInt8) (b : UInt8), val (l ++ [b]) = val l + b.toNat % 128 * 128 ^ l.length
  | [], b => by simp [val]
  | c :: l, b => by
    have ih := val_snoc l b
    show c.toNat % 128 + 128 * val (l ++ [b]) = _
    rw [ih]
    simp only [val, List.length_cons, Nat.pow_succ, Nat.mul_add]
    rw [← Nat.mul_assoc (b.toNat % 128), Nat.mul_comm 128 (b.toNat % 128 * 128 ^ l.length)]
    omega
theorem val_lt : ∀ (l : List UInt8), val l < 128 ^ l.length
  | [] => by simp [val]
  | c :: l => by
    have := val_lt l
    simp only [val, List.length_cons, Nat.pow_succ]
    omega
theorem rv_nil (n w : Nat) (f : Bool) (p : Nat) : rv n w f [] p = none := rfl
theorem rv_great (n w : Nat) (f : Bool) (l : List UInt8) (p : Nat) (h : 1000000000 < w) : rv n w f l p = none := by
  cases l
  · rfl
  · rw [rv, if_pos h]
theorem rv_head (n w : Nat) (f : Bool) (b : UInt8) (l : List UInt8) (p : Nat) (h : w ≤ 1000000000) (hb : 127 < b.toNat) : rv n w f (b :: l) p = rv (n + (b.toNat - 128) * w) (w * 128) false l (p + 1) := by
  rw [rv, if_neg (by omega), if_pos hb]
theorem rv_nought (n w : Nat) (b : UInt8) (l : List UInt8) (p : Nat) (hb : b.toNat = 0) : rv n w false (b :: l) p = none := by
  rw [rv]; split
  · rfl
  · rw [if_neg (by omega), if_pos ⟨hb, rfl⟩]
theorem rv_far (n w : Nat) (f : Bool) (b : UInt8) (l : List UInt8) (p : Nat) (hb : b.toNat ≤ 127) (h : 1000000000 < n + b.toNat * w) : rv n w f (b :: l) p = none := by
  rw [rv]; split
  · rfl
  · rw [if_neg (by omega)]; split
    · rfl
    · rfl
theorem rv_done (n w : Nat) (f : Bool) (b : UInt8) (l : List UInt8) (p : Nat) (h : w ≤ 1000000000) (hb : b.toNat ≤ 127) (h0 : b.toNat ≠ 0 ∨ f = true) (hm : n + b.toNat * w ≤ 1000000000) :
    rv n w f (b :: l) p = some (n + b.toNat * w, p + 1) := by
  rw [rv, if_neg (by omega), if_neg (by omega), if_neg (by rcases h0 with h | h <;> simp [h]), if_neg (by omega)]

/-- As the bytes so far tell it. -/
def rvs (hd : List UInt8) (l : List UInt8) (p : Nat) : Option (Nat × Nat) := rv (val hd) (128 ^ hd.length) (decide (hd.length = 0)) l p
theorem rvs_step (hd : List UInt8) (b : UInt8) (l : List UInt8) (p : Nat) (hk : hd.length ≤ 4) (hb : 127 < b.toNat) : rvs hd (b :: l) p = rvs (hd ++ [b]) l (p + 1) := by
  have hw : 128 ^ hd.length ≤ 128 ^ 4 := Nat.pow_le_pow_right (by omega) hk
  have hlt := b.toNat_lt
  unfold rvs
  rw [rv_head _ _ _ _ _ _ (by omega) hb, val_snoc, List.length_append, List.length_singleton, Nat.pow_succ, decide_eq_false (p := hd.length + 1 = 0) (by omega)]
  have : b.toNat % 128 = b.toNat - 128 := by omega
  rw [this]
theorem rvs_five (hd : List UInt8) (l : List UInt8) (p : Nat) (hk : 5 ≤ hd.length) : rvs hd l p = none := by
  have hw : 128 ^ 5 ≤ 128 ^ hd.length := Nat.pow_le_pow_right (by omega) hk
  exact rv_great _ _ _ _ _ (by omega)
/-- The test by the bytes of the number says the same as the test for a needless nought. -/
theorem rvs_end (hd : List UInt8) (b : UInt8) (l : List UInt8) (p : Nat) (hk : hd.length ≤ 4) (hh : heads hd) (hb : b.toNat ≤ 127) :
    rvs hd (b :: l) p = if val (hd ++ [b]) ≤ 1000000000 ∧ vt (val (hd ++ [b])) = hd ++ [b] then some (val (hd ++ [b]), p + 1) else none := by
  have hw : 128 ^ hd.length ≤ 128 ^ 4 := Nat.pow_le_pow_right (by omega) hk
  have ev : val (hd ++ [b]) = val hd + b.toNat * 128 ^ hd.length := by rw [val_snoc]; congr 2; omega
  by_cases h0 : b.toNat = 0 ∧ hd ≠ []
  · have eb : b = 0 := by have := UInt8.toNat_inj (a := b) (b := 0); simp at this; exact this.1 h0.1
    rw [if_neg (by rw [eb]; exact fun h => vt_not hd h0.2 h.2)]
    unfold rvs
    rw [decide_eq_false (by simpa using h0.2), rv_nought _ _ _ _ _ h0.1]
  · have hv : vt (val (hd ++ [b])) = hd ++ [b] := vt_val hd b hh (by omega) (by
      by_cases e : hd = []
      · exact .inl e
      · right; intro eb; exact h0 ⟨by rw [eb]; rfl, e⟩)
    by_cases hm : val (hd ++ [b]) ≤ 1000000000
    · rw [if_pos ⟨hm, hv⟩]
      unfold rvs
      rw [rv_done _ _ _ _ _ _ (by omega) hb (by
        by_cases e : hd = []
        · right; simp [e]
        · left; exact fun eb => h0 ⟨eb, e⟩) (by omega), ev]
    · rw [if_neg (fun h => hm h.1)]
      exact rv_far _ _ _ _ _ _ hb (by omega)
end Go.Proofs.Ytplcdcfhfaghiaa.W
/- VarL: The walks of l01Var and l01In. -/
namespace Go.Proofs.Ytplcdcfhfaghiaa
set_option maxRecDepth 100000
open Go.RowKit

/-- What one round of the loop does to the row of bytes. -/
theorem step_byte {B n m : Nat} {l : List UInt8} {w wr w1 : World} {v v' : Value} {o : Obj} {x : Int} (hB : B ≤ wr.heap.size) (hx : x = (m % 128 + 128 : Nat))
    (hm : 127 < m) (hl : l.length + m ≤ n) (ht : l ++ W.vt m = W.vt n)
    (hown : wr.ownsRow B 5 1 v l.length (bv l)) (hb : Below B w wr)
    (hown' : w1.ownsRow B 5 1 v' (l.length + 1) (bv l ++ [.int .u8 x])) (hg : (wr.alloc o).grownBy w1 v.ownBlock) :
    ∃ l', l'.length + m / 128 ≤ n ∧ l' ++ W.vt (m / 128) = W.vt n ∧ w1.ownsRow B 5 1 v' l'.length (bv l') ∧ Below B w w1 := by
  refine ⟨l ++ [UInt8.ofNat (m % 128 + 128)], by simp; omega, by rw [← ht, W.vt_big m hm]; simp, ?_, ?_⟩
  · have e := byte_of x (by omega) (by omega)
    rw [e, bv_snoc] at hown'
    have : UInt8.ofNat x.toNat = UInt8.ofNat (m % 128 + 128) := by rw [hx]; rfl
    rw [this] at hown'
    simpa using hown'
  · exact (hb.alloc hB o).grown hg (by simp; omega) (fun j hj => by have := (hown.lt j hj).1; omega)
theorem last_byte {B n m : Nat} {l : List UInt8} {w wr w1 : World} {v v' : Value} {o : Obj} {x : Int} (hB : B ≤ wr.heap.size) (hx : x = m)
    (hm : m ≤ 127) (ht : l ++ W.vt m = W.vt n)
    (hown : wr.ownsRow B 5 1 v l.length (bv l)) (hb : Below B w wr)
    (hown' : w1.ownsRow B 5 1 v' (l.length + 1) (bv l ++ [.int .u8 x])) (hg : (wr.alloc o).grownBy w1 v.ownBlock) :
    (convert 22 9 v').run Try.prog w1 = .ok (.string ⟨(W.vt n).toArray⟩) w1 ∧ Below B w w1 := by
  refine ⟨?_, (hb.alloc hB o).grown hg (by simp; omega) (fun j hj => by have := (hown.lt j hj).1; omega)⟩
  have e := byte_of x (by omega) (by omega)
  rw [e, bv_snoc] at hown'
  have : UInt8.ofNat x.toNat = UInt8.ofNat m := by rw [hx]; rfl
  rw [this] at hown'
  have hn : W.vt n = l ++ [UInt8.ofNat m] := by rw [← ht, W.vt_small m hm]
  rw [hn]
  exact own_string (by simpa using hown')

theorem l01In_any (x a b : Int) (w : World) :
    Calls Try.prog 26 #[.int .i64 x, .int .i64 a, .int .i64 b] w fun e w' => e = .returned (.bool (decide (a ≤ x) && decide (x ≤ b))) ∧ w' = w := by
  by_cases h : a ≤ x
  · by_cases h' : x ≤ b
    · go_enter Try.func26, Try.ntmps26
      go_wp2
      go_ret
      exact ⟨by simp [h, h'], rfl⟩
    · go_enter Try.func26, Try.ntmps26
      go_wp2
      go_ret
      exact ⟨by simp [h'], rfl⟩
  · go_enter Try.func26, Try.ntmps26
    go_wp2
    go_ret
    exact ⟨by simp; omega, rfl⟩
end Go.Proofs.Ytplcdcfhfaghiaa
/- MatA: The walk of the model's MatrixOk. -/
namespace Go.Proofs.Ytplcdcfhfaghiaa
set_option maxRecDepth 100000
open Go.RowKit
attribute [local go_sem ↓] Go.wp_at_zero Go.wp_at_succ

theorem lIn_is (x a b : Int) (w : World) (r : Bool) (h : (decide (a ≤ x) && decide (x ≤ b)) = r) : Calls Try.prog 26 #[.int .i64 x, .int .i64 a, .int .i64 b] w fun e w' => e = .returned (.bool r) ∧ w' = w := by
  rw [← h]; exact l01In_any x a b w
/-- A row of a matrix that is right. -/
def numOk (y : Int) : Bool := decide (0 ≤ y) && decide (y ≤ 255)
def rowOk (c : Nat) (x : List Int) : Bool := decide (x.length = c) && (decide (1 ≤ (x.length : Int)) && decide ((x.length : Int) ≤ 8)) && x.all numOk
/-- A matrix that is right. -/
def matOk (X : List (List Int)) : Bool := X.all (rowOk (X.headD []).length) && (decide (1 ≤ (X.length : Int)) && decide ((X.length : Int) ≤ 8))
theorem matOk_no {X : List (List Int)} {x : List Int} (hx : x ∈ X) (h : rowOk (X.headD []).length x = false) : matOk X = false := by
  unfold matOk
  have : X.all (rowOk (X.headD []).length) = false := by rw [List.all_eq_false]; exact ⟨x, hx, by rw [h]; simp⟩
  rw [this]; rfl
theorem matOk_end {X : List (List Int)} (h : ∀ x ∈ X, rowOk (X.headD []).length x = true) : matOk X = (decide (1 ≤ (X.length : Int)) && decide ((X.length : Int) ≤ 8)) := by
  unfold matOk
  rw [List.all_eq_true.2 h, Bool.true_and]
theorem rowOk_num {c : Nat} {x : List Int} {k : Nat} (hk : k < x.length) (h : numOk (x.getD k 0) = false) : rowOk c x = false := by
  unfold rowOk
  have e : x.getD k 0 = x[k] := by simp [List.getD, hk]
  rw [e] at h
  have : x.all numOk = false := by rw [List.all_eq_false]; exact ⟨x[k], List.getElem_mem hk, by rw [h]; simp⟩
  rw [this, Bool.and_false]
theorem rowOk_yes {c : Nat} {x : List Int} (h1 : x.length = c) (h2 : (decide (1 ≤ (x.length : Int)) && decide ((x.length : Int) ≤ 8)) = true) (h3 : ∀ k, k < x.length → numOk (x.getD k 0) = true) : rowOk c x = true := by
  unfold rowOk
  rw [decide_eq_true h1, h2, Bool.true_and, Bool.true_and, List.all_eq_true]
  intro y hy
  obtain ⟨k, hk, rfl⟩ := List.mem_iff_getElem.1 hy
  have := h3 k hk
  simpa [List.getD, hk] using this
end Go.Proofs.Ytplcdcfhfaghiaa
