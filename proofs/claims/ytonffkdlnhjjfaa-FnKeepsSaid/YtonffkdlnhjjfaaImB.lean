/- The program's own copy of files, what is left of a file, and the loss of power. -/
import Derived.Test.YtonffkdlnhjjfaaImA
import Derived.Test.YtonffkdlnhjjfaaDiskQ
namespace Go.Proofs.Ytonffkdlnhjjfaa
open Go.RowKit
attribute [local go_sem ↓] Go.wp_at_zero Go.wp_at_succ

theorem cell_lt {w : World} {p : Addr} {v : Value} (h : w.cell? p = some v) : p.block < w.heap.size := by
  by_cases c : p.block < w.heap.size
  · exact c
  · exfalso
    unfold World.cell? at h
    rw [Array.getElem?_eq_none (by omega)] at h
    simp at h
/-- A file's three cells. -/
def C3 (w : World) (g : Nat) (f : FM) : Prop := w.cell? ⟨g, 0, none⟩ = some (.string f.name) ∧ w.cell? ⟨g, 1, none⟩ = some (.string f.text) ∧ w.cell? ⟨g, 2, none⟩ = some (.int .i64 f.kept)
theorem C3.below {w w' : World} {g : Nat} {f : FM} (h : C3 w g f) (hb : Below w.heap.size w w') : C3 w' g f :=
  ⟨(hb.cell (p := ⟨g, 0, none⟩) (cell_lt h.1)).trans h.1, (hb.cell (p := ⟨g, 1, none⟩) (cell_lt h.2.1)).trans h.2.1, (hb.cell (p := ⟨g, 2, none⟩) (cell_lt h.2.2)).trans h.2.2⟩
theorem C3.alloc {w : World} {g : Nat} {f : FM} (h : C3 w g f) (o : Obj) : C3 (w.alloc o) g f := h.below ((Below.refl _ _).alloc (Nat.le_refl _) o)
theorem C3.grown {w w' : World} {g : Nat} {f : FM} {row : Option Nat} (h : C3 w g f) (hg : w.grownBy w' row) (hr : row ≠ some g) : C3 w' g f :=
  ⟨(cell_grown hg ⟨g, 0, none⟩ (cell_lt h.1) hr).trans h.1, (cell_grown hg ⟨g, 1, none⟩ (cell_lt h.2.1) hr).trans h.2.1, (cell_grown hg ⟨g, 2, none⟩ (cell_lt h.2.2) hr).trans h.2.2⟩
theorem C3.new (w : World) (f : FM) (t : TypeId) : C3 (w.alloc (.cells #[.string f.name, .string f.text, .int .i64 f.kept] t)) w.heap.size f := by
  have h := wcells_new w #[.string f.name, .string f.text, .int .i64 f.kept] t
  exact ⟨(h.2 0 _ rfl).1, (h.2 1 _ rfl).1, (h.2 2 _ rfl).1⟩
theorem take_snoc {α : Type} (fs : List α) (k : Nat) (h : k < fs.length) : fs.take (k + 1) = fs.take k ++ [fs[k]] := List.take_succ_eq_append_getElem h
set_option maxHeartbeats 4000000 in
theorem copyOf_any (a : Option Addr) (fs : List FM) (cap : Nat) (w : World) (hr : FRow w a fs) (hl : fs.length ≤ 1048576) (hs : ∀ f ∈ fs, f.name.size ≤ 281474976710656 ∧ f.text.size ≤ 281474976710656) :
    Calls Try.prog 28 #[.slice a fs.length cap] w fun e w' => MadeDisk fs w e w' := by
  obtain ⟨i0, hi, hz0, hz1, hz2⟩ := info_parts infoFile
  have HR : Hid (FRow w a fs) := hr
  have HS : Hid (∀ f ∈ fs, f.name.size ≤ 281474976710656 ∧ f.text.size ≤ 281474976710656) := hs
  have HY0 : Hid (WCells (w.alloc (.cells #[.slice none 0 0] 26)) w.heap.size [.slice none 0 0]) := wcells_new w #[.slice none 0 0] 26
  have HB0 : Hid (Below w.heap.size w (w.alloc (.cells #[.slice none 0 0] 26))) := (Below.refl _ _).alloc (Nat.le_refl _) _
  clear hr hs
  go_enter Try.func28, Try.ntmps28
  go_wp2_with (at_make; refine wpList_make_own _ rfl _ _ 24 rfl (w.heap.size + 1) 36 i0 _ 3 Try.underlying24 hi hz0 hz1 .i64 .i64 _ fs.length rfl rfl (by omega) ?b2 ?b3 ?b4 ?_)
  case b2 => rw [hz2]; omega
  case b3 => unfold maxLen; omega
  case b4 => simp
  intro wm hownm hgrm
  have hbm : Below w.heap.size w wm := HB0.out.grown hgrm (by simp) (fun j hj => by simp at hj)
  have hym : WCells wm w.heap.size [.slice none 0 0] := wc_grown HY0.out hgrm (by simp)
  have HYM : Shut (WCells wm w.heap.size [.slice none 0 0]) := ⟨hym⟩
  have HBM : Hid (Below w.heap.size w wm) := hbm
  have HWM : Hid (wm.ownsRow (w.heap.size + 1) 36 3 (.slice (some ⟨w.heap.size + 1, 0, none⟩) 0 fs.length) 0 []) := hownm
  clear hgrm hbm hym hownm
  go_wp2_with fail
  go_loopw [3, 11] (fun v i wr => ∃ (k : Nat), i = .int .i64 k ∧ k ≤ fs.length ∧ Shut (WCells wr w.heap.size [.slice none 0 0]) ∧ wr.ownsRow (w.heap.size + 1) 36 3 v k (fcs (fs.take k)) ∧ Below w.heap.size w wr) (fun _ i _ => fs.length - (intOf i).toNat)
  case atStart => exact ⟨0, rfl, Nat.zero_le _, HYM, by simpa [fcs] using HWM.out, HBM.out⟩
  case round =>
    clear HYM HBM HWM HY0 HB0
    obtain ⟨k, rfl, hk, hy, hown, hb⟩ := hrel
    have HB : Hid (Below w.heap.size w wr) := hb
    by_cases hlt : k < fs.length
    · obtain ⟨b, off, rfl, lb, hc⟩ := FRow.at HR.out (by omega)
      obtain ⟨d0, d1, d2⟩ := hc k hlt
      rw [← hb.cell (p := ⟨b, off + k * 3, none⟩) lb] at d0
      rw [← hb.cell (p := ⟨b, off + k * 3 + 1, none⟩) lb] at d1
      rw [← hb.cell (p := ⟨b, off + k * 3 + 2, none⟩) lb] at d2
      have hsz := HS.out fs[k] (List.getElem_mem hlt)
      have hstep : fcs (fs.take (k + 1)) = fcs (fs.take k) ++ [.string fs[k].name, .string fs[k].text, .int .i64 fs[k].kept] := by rw [take_snoc fs k hlt, fcs_snoc]
      obtain ⟨f, hfe⟩ : ∃ f, f = fs[k] := ⟨_, rfl⟩
      rw [← hfe] at d0 d1 d2 hsz hstep
      obtain ⟨sz0, sz1⟩ := hsz
      have HST : Hid (fcs (fs.take (k + 1)) = fcs (fs.take k) ++ [.string f.name, .string f.text, .int .i64 f.kept]) := hstep
      have k0 : (0 : Int) ≤ (k : Int) := by omega
      have k1 : (k : Int) < (fs.length : Int) := by omega
      have hws : w.heap.size < wr.heap.size := hy.out.1
      have nv : u3.ownBlock ≠ some wr.heap.size := fun e => by have := (hown.lt _ e).2; omega
      have HC := C3.new wr f 36
      have hc3 : Shut (C3 (wr.alloc (.cells #[.string f.name, .string f.text, .int .i64 f.kept] 36)) wr.heap.size f) := ⟨HC⟩
      clear hfe hc hb hstep HC
      go_wp2_with fail
      have tokA : True := trivial
      have tokB : True := trivial
      go_region_held3 (fun w' => w'.cell? ⟨wr.heap.size, 0, none⟩ = some (.string f.name) ∧ w'.cell? ⟨wr.heap.size, 1, none⟩ = some (.string f.text) ∧ w'.cell? ⟨wr.heap.size, 2, none⟩ = some (.int .i64 f.kept))
        (first | assumption | (exact hc3.out) | (exact C3.alloc (by assumption) _) | (exact C3.below (by assumption) hbB) | (exact C3.below (by assumption) hbA) | (exact C3.grown (by assumption) hgrow nv))
        (first
          | (go_at_call 39; have _t := tokA; refine (clone_any _ _ ?_).mono ?_; (first | exact sz0 | exact sz1); rintro e w6 ⟨rfl, hbA⟩; clear _t tokA)
          | (go_at_call 39; have _t := tokB; refine (clone_any _ _ ?_).mono ?_; (first | exact sz0 | exact sz1); rintro e w7 ⟨rfl, hbB⟩; clear _t tokB)
          | ((fail_if_success (have _t := tokB)); refine step_append_lies _ (by rfl) _ _ _ (by rfl) (w.heap.size + 1) 36 i0 _ 3 40 Try.underlying24 hi hz0 hz1 hz2 rfl (by omega) _ _ _ (by rfl) ((own_below (own_below ((hown.alloc _).drew) hbA) hbB).alloc _) ⟨w7.heap.size, 0, none⟩ 1 1 [.string f.name, .string f.text, .int .i64 f.kept] (by rfl) (by rfl) (World.news_of_block (cs := #[.string f.name, .string f.text, .int .i64 f.kept]) (t := 36) (fr := (0, 0)) (heap_alloc_new w7 _)) (by simp [Value.oneCell']) (by omega) (by unfold maxLen; omega) (by omega) (by have h1 := hbA.size; have h2 := hbB.size; simp at h1 h2 ⊢; omega) (w7.heap.size + 1) (by simp) ?_; intro gg cap1 w8 hown1 hgrow hat hlt'))
      all_goals go_wp2_with fail
      all_goals
        have hbx : Below w.heap.size w (w7.alloc (.cells #[.string f.name, .string f.text, .int .i64 f.kept] 36)) := ((((HB.out.alloc HB.out.size _).drew).trans (hbA.mono (by have := HB.out.size; simp; omega))).trans (hbB.mono (by have h1 := hbA.size; have := HB.out.size; simp at h1; omega))).alloc (by have h1 := hbA.size; have h2 := hbB.size; have := HB.out.size; simp at h1; omega) _
        have hbn : Below w.heap.size w w8 := hbx.grown hgrow hbx.size (fun j hj => by have := (hown.lt j hj).1; omega)
        have hyn : WCells w8 w.heap.size [.slice none 0 0] := wc_grown ((((WCells.grow (w := (wr.alloc (.cells #[.string f.name, .string f.text, .int .i64 f.kept] 36)).drew) (hy.out.alloc _) hbA).grow hbB).alloc _)) hgrow (fun e => by have := (hown.lt _ e).1; omega)
        refine ⟨⟨k + 1, by go_num, by omega, ⟨hyn⟩, ?_, hbn⟩, by simp [intOf]; omega⟩
        rw [HST.out]
        exact hown1
    · have e : k = fs.length := by omega
      subst e
      rw [List.take_length] at hown
      obtain ⟨yc, yf⟩ := hy.out.2 0 _ rfl
      clear hb
      obtain ⟨va, vcap, rfl⟩ := own_form hown
      go_wp2_with fail
      show bodyPost Try.prog Try.f28 _ Exit.ret _ _
      refine bodyPost_ret (v := .agg #[.slice va fs.length vcap]) (by simp [results, Try.results28, go_sem, yc]) rfl ⟨_, rfl, ?_, HB.out.setCell (by simp) _⟩
      exact own_wider (own_other hown (show w.heap.size < w.heap.size + 1 by omega) _ rfl _ rfl) (by omega)
end Go.Proofs.Ytonffkdlnhjjfaa
