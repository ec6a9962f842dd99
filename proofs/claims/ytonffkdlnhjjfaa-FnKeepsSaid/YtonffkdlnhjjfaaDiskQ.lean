/- The model's walks that make a disk: without a file, with one in its place. -/
import Derived.Test.YtonffkdlnhjjfaaDiskD
import Derived.Deep.AppendLies
import Derived.Deep.RegionLaw
namespace Go.Proofs.Ytonffkdlnhjjfaa
open Go.RowKit
attribute [local go_sem ↓] Go.wp_at_zero Go.wp_at_succ

/-- A disk that a call has made: its files, in a row of its own. -/
def MadeDisk (fs : List FM) (w : World) (e : Ending) (w' : World) : Prop := ∃ v, e = .returned (.agg #[v]) ∧ w'.ownsRow w.heap.size 36 3 v fs.length (fcs fs) ∧ Below w.heap.size w w'
theorem own_nil (w : World) (B t : Nat) : w.ownsRow B t 3 (.slice none 0 0) 0 [] := ⟨by simp, .inl ⟨rfl, rfl⟩⟩
theorem own_form {w : World} {B n : Nat} {t : TypeId} {v : Value} {L : List Value} (h : w.ownsRow B t 3 v n L) : ∃ a c, v = .slice a n c := by
  obtain ⟨h1, ⟨rfl, rfl⟩ | ⟨g, cap, cur, e, rest⟩⟩ := h
  · exact ⟨none, 0, rfl⟩
  · exact ⟨_, _, e⟩
theorem own_wider {w : World} {B C n : Nat} {t : TypeId} {v : Value} {L : List Value} (h : w.ownsRow B t 3 v n L) (hC : C ≤ B) : w.ownsRow C t 3 v n L := by
  obtain ⟨h1, h | ⟨g, cap, cur, e, hB, rest⟩⟩ := h
  · exact ⟨h1, .inl h⟩
  · exact ⟨h1, .inr ⟨g, cap, cur, e, Nat.le_trans hC hB, rest⟩⟩
theorem fcs_snoc (ys : List FM) (f : FM) : fcs (ys ++ [f]) = fcs ys ++ [.string f.name, .string f.text, .int .i64 f.kept] := by simp [fcs, fcells]
theorem own_other {w w' : World} {B n g : Nat} {t : TypeId} {v : Value} {L : List Value} (h : w.ownsRow B t 3 v n L) (hg : g < B) (p : Addr) (hp : p.block = g) (x : Value) (e : w' = w.setCell p x) : w'.ownsRow B t 3 v n L := by
  subst e
  refine h.kept (row := some g) ⟨rfl, rfl, rfl, by simp [World.setCell], fun k hk hne => ?_⟩ ?_
  · exact Below.heap_setCell w p x k (fun e => hne (by rw [hp] at e; rw [e]))
  · cases hv : v.ownBlock with
    | none => exact .inl rfl
    | some j => right; have := (h.lt j hv).1; simp; omega
theorem own_below {w w' : World} {B n : Nat} {t : TypeId} {v : Value} {L : List Value} (h : w.ownsRow B t 3 v n L) (hb : Below w.heap.size w w') : w'.ownsRow B t 3 v n L :=
  h.kept (row := none) ⟨hb.os, hb.tape, hb.output, hb.size, fun k hk _ => hb.block k hk⟩ (by
    cases hv : v.ownBlock with
    | none => exact .inl rfl
    | some j => right; simp)
theorem wc_grown {w w' : World} {g : Nat} {row : Option Nat} {L : List Value} (h : WCells w g L) (hg : w.grownBy w' row) (hr : row ≠ some g) : WCells w' g L := by
  have hblk := hg.block g h.1 (fun e => hr e.symm)
  refine ⟨Nat.lt_of_lt_of_le h.1 hg.size, fun i v hv => ⟨?_, ?_⟩⟩
  · rw [World.cell?_of_block (w := w) hblk]; exact (h.2 i v hv).1
  · rw [World.frozen?_of_block (w := w) hblk]; exact (h.2 i v hv).2
theorem cell_grown {w w' : World} {row : Option Nat} (hg : w.grownBy w' row) (p : Addr) (hp : p.block < w.heap.size) (hr : row ≠ some p.block) : w'.cell? p = w.cell? p :=
  World.cell?_of_block (w := w) (hg.block p.block hp (fun e => hr e.symm))
theorem frozen_grown {w w' : World} {row : Option Nat} (hg : w.grownBy w' row) (p : Addr) (hp : p.block < w.heap.size) (hr : row ≠ some p.block) : w'.frozen? p = w.frozen? p :=
  World.frozen?_of_block (w := w) (hg.block p.block hp (fun e => hr e.symm))
/-- A variable's row has grown, and the variable holds it. -/
theorem var_grow {wr w1 : World} {o : Obj} {B gv n m : Nat} {t : TypeId} {v v1 : Value} {L0 L : List Value} (hv : WCells wr gv [v]) (hgv : gv < B) (hown : wr.ownsRow B t 3 v n L0) (hgrow : ((wr.alloc o).drew).grownBy w1 v.ownBlock) (hown1 : w1.ownsRow B t 3 v1 m L) :
    (∀ g X, g < B → g ≠ gv → WCells wr g X → WCells (w1.setCell ⟨gv, 0, none⟩ v1) g X) ∧ WCells (w1.setCell ⟨gv, 0, none⟩ v1) gv [v1] ∧ (w1.setCell ⟨gv, 0, none⟩ v1).ownsRow B t 3 v1 m L ∧
    ∀ C w0, C ≤ gv → Below C w0 wr → Below C w0 (w1.setCell ⟨gv, 0, none⟩ v1) := by
  have hob : ∀ c, c < B → v.ownBlock ≠ some c := fun c hc e => by have := (hown.lt c e).1; omega
  have one : ∀ g X, g < B → WCells wr g X → WCells w1 g X := fun g X hg h => wc_grown (w := (wr.alloc o).drew) (h.alloc o) hgrow (hob g hg)
  refine ⟨fun g X hg hne h => (one g X hg h).other _ _ (by simpa using hne), ?_, own_other hown1 hgv _ rfl _ rfl, fun C w0 hC hb => ?_⟩
  · exact (one gv [v] hgv hv).set 0 v1 (by simp)
  · have h0 := hv.1
    have hb1 : Below C w0 ((wr.alloc o).drew) := (hb.alloc (by omega) o).drew
    exact (hb1.grown hgrow (by simp; omega) (fun j hj => by have := (hown.lt j hj).1; omega)).setCell (by simpa using hC) _
def withoutF (n : ByteArray) (fs : List FM) : List FM := fs.filter (fun f => !decide (f.name = n))
theorem without_step (n : ByteArray) (fs : List FM) (k : Nat) (h : k < fs.length) : withoutF n (fs.take (k + 1)) = withoutF n (fs.take k) ++ (if fs[k].name = n then [] else [fs[k]]) := by
  unfold withoutF
  rw [List.take_succ_eq_append_getElem h, List.filter_append]
  by_cases c : fs[k].name = n <;> simp [c]
theorem without_len (n : ByteArray) (fs : List FM) : (withoutF n fs).length ≤ fs.length := List.length_filter_le _ _
set_option maxHeartbeats 2000000 in
theorem l03Without_any (a : Option Addr) (fs : List FM) (cap : Nat) (n : ByteArray) (w : World) (hr : FRow w a fs) (hl : fs.length ≤ 1048576) :
    Calls Try.prog 56 #[.agg #[.slice a fs.length cap], .string n] w fun e w' => MadeDisk (withoutF n fs) w e w' := by
  obtain ⟨i0, hi, hz0, hz1, hz2⟩ := info_parts infoFile
  have HR : Hid (FRow w a fs) := hr
  have hx0 := ((wcells_new w #[.slice a fs.length cap] 26).alloc (.cells #[.slice none 0 0] 26)).alloc (.cells #[.slice none 0 0] 26)
  have hy0 := (wcells_new (w.alloc (.cells #[.slice a fs.length cap] 26)) #[.slice none 0 0] 26).alloc (.cells #[.slice none 0 0] 26)
  have hv0 := wcells_new ((w.alloc (.cells #[.slice a fs.length cap] 26)).alloc (.cells #[.slice none 0 0] 26)) #[.slice none 0 0] 26
  simp only [World.size_alloc] at hx0 hy0 hv0
  have HX0 : Hid _ := hx0
  have HY0 : Hid _ := hy0
  have HV0 : Hid _ := hv0
  clear hr hx0 hy0 hv0
  go_enter Try.func56, Try.ntmps56
  go_wp2_with fail
  go_loopw [6] (fun i wr => ∃ (k : Nat) (v : Value), i = .int .i64 k ∧ k ≤ fs.length ∧ Shut (WCells wr w.heap.size [.slice a fs.length cap]) ∧ Shut (WCells wr (w.heap.size + 1) [.slice none 0 0]) ∧ Shut (WCells wr (w.heap.size + 1 + 1) [v]) ∧
      wr.ownsRow (w.heap.size + 3) 36 3 v (withoutF n (fs.take k)).length (fcs (withoutF n (fs.take k))) ∧ Below w.heap.size w wr) (fun i _ => fs.length - (intOf i).toNat)
  case atStart => exact ⟨0, .slice none 0 0, rfl, Nat.zero_le _, ⟨HX0.out⟩, ⟨HY0.out⟩, ⟨HV0.out⟩, by simp [withoutF, fcs]; exact own_nil _ _ _, (((Below.refl _ _).alloc (Nat.le_refl _) _).alloc (by simp) _).alloc (by simp; omega) _⟩
  case round =>
    obtain ⟨k, v, rfl, hk, hx, hy, hv, hown, hb⟩ := hrel
    have x0 := (hx.out.2 0 _ rfl).1
    have y0 := (hy.out.2 0 _ rfl)
    have v0 := (hv.out.2 0 _ rfl)
    obtain ⟨vc, vf⟩ := v0
    obtain ⟨yc, yf⟩ := y0
    have HB : Hid (Below w.heap.size w wr) := hb
    by_cases hlt : k < fs.length
    · obtain ⟨b, off, rfl, lb0, hc0⟩ := FRow.at HR.out (by omega)
      obtain ⟨d0, d1, d2⟩ := hc0 k hlt
      rw [← hb.cell (p := ⟨b, off + k * 3, none⟩) lb0] at d0
      rw [← hb.cell (p := ⟨b, off + k * 3 + 1, none⟩) lb0] at d1
      rw [← hb.cell (p := ⟨b, off + k * 3 + 2, none⟩) lb0] at d2
      have hstep := without_step n fs k hlt
      obtain ⟨f, hfe⟩ : ∃ f, f = fs[k] := ⟨_, rfl⟩
      rw [← hfe] at d0 d1 d2 hstep
      have k0 : (0 : Int) ≤ (k : Int) := by omega
      have k1 : (k : Int) < (fs.length : Int) := by omega
      have hlen : (withoutF n (fs.take k)).length ≤ 1048576 := by have := without_len n (fs.take k); simp at this; omega
      clear hfe hc0 hb
      by_cases hn : f.name = n
      · rw [if_pos hn, List.append_nil] at hstep
        have HST : Hid (withoutF n (fs.take (k + 1)) = withoutF n (fs.take k)) := hstep
        have hq : (f.name.toList == n.toList) = true := by rw [hn]; simp
        clear hstep hn
        go_wp2_with fail
        go_roundw
        case rel => exact ⟨k + 1, v, by go_num, by omega, hx, hy, hv, by rw [HST.out]; exact hown, HB.out⟩
        case measure => simp [intOf]; omega
      · rw [if_neg hn] at hstep
        have HST : Hid (withoutF n (fs.take (k + 1)) = withoutF n (fs.take k) ++ [f]) := hstep
        have hq := str_ne hn
        clear hstep hn
        go_wp2_with fail
        have hv1 : w.heap.size + 1 + 1 < wr.heap.size := hv.out.1
        have hx1 : w.heap.size < wr.heap.size := hx.out.1
        have lb1 : b < wr.heap.size := by omega
        have hob : ∀ c, c < w.heap.size + 3 → v.ownBlock ≠ some c := fun c hc e => by have := (hown.lt c e).1; omega
        have nb : v.ownBlock ≠ some b := hob b (by omega)
        have nx : v.ownBlock ≠ some w.heap.size := hob _ (by omega)
        have nv : v.ownBlock ≠ some (w.heap.size + 1 + 1) := hob _ (by omega)
        have m1 : w.heap.size + 1 + 1 ≠ b := by omega
        have m2 : w.heap.size + 1 + 1 ≠ w.heap.size := by omega
        clear hob
        go_region_law ((refine step_append_lies _ (by rfl) _ _ _ (by rfl) (w.heap.size + 3) 36 i0 _ 3 40 Try.underlying24 hi hz0 hz1 hz2 rfl (by omega) _ _ _ (by rfl) ((hown.alloc _).drew) ⟨wr.heap.size, 0, none⟩ 1 1 [.string f.name, .string f.text, .int .i64 f.kept] (by rfl) (by rfl) (World.news_of_block (cs := #[.string f.name, .string f.text, .int .i64 f.kept]) (t := 36) (fr := (0, 0)) (heap_alloc_new wr _)) (by simp [Value.oneCell']) (by omega) (by unfold maxLen; omega) (by omega) (by simp; omega) (wr.heap.size + 1) (by simp) ?_; intro gg cap1 w1 hown1 hgrow hat hlt'; have vc1 := (cell_grown hgrow ⟨w.heap.size + 1 + 1, 0, none⟩ (by simp; omega) nv).trans ((hv.out.alloc _).2 0 _ rfl).1; have vf1 := (frozen_grown hgrow ⟨w.heap.size + 1 + 1, 0, none⟩ (by simp; omega) nv).trans ((hv.out.alloc _).2 0 _ rfl).2))
        all_goals go_wp2_with fail
        all_goals
          obtain ⟨u1, u2, u3, u4⟩ := var_grow hv.out (show w.heap.size + 1 + 1 < w.heap.size + 3 by omega) hown hgrow hown1
          refine ⟨⟨k + 1, _, by go_num, by omega, ⟨u1 _ _ (by omega) (by omega) hx.out⟩, ⟨u1 _ _ (by omega) (by omega) hy.out⟩, ⟨u2⟩, ?_, u4 _ _ (by omega) HB.out⟩, by simp [intOf]; omega⟩
          rw [HST.out, fcs_snoc, List.length_append]
          exact u3
    · have e : k = fs.length := by omega
      subst e
      rw [List.take_length] at hown
      clear hb
      obtain ⟨va, vcap, rfl⟩ := own_form hown
      go_wp2_with fail
      show bodyPost Try.prog Try.f56 _ Exit.ret _ _
      refine bodyPost_ret (v := .agg #[.slice va (withoutF n fs).length vcap]) (by simp [results, Try.results56, go_sem, yc]) rfl ⟨_, rfl, ?_, HB.out.setCell (by simp) _⟩
      exact own_wider (own_other hown (show w.heap.size + 1 < w.heap.size + 3 by omega) _ rfl _ rfl) (by omega)
end Go.Proofs.Ytonffkdlnhjjfaa
