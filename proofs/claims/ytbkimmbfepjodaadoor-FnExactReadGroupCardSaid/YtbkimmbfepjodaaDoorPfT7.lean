/- Texts of ours, laid one behind the other: TCodC, TBoolA, TCodD, TLawMa, TFits, TCodE, TFieldP, TByA. -/
import Derived.Test.YtbkimmbfepjodaaDoorPfT6
import Derived.Deep.OwnRows
import Derived.Deep.RegionLaw
import Derived.Deep.RegionHeld3
import Derived.Deep.DrawnRows
import Derived.BigQuiet
set_option linter.unusedVariables false
set_option linter.unusedSimpArgs false
/- The walk of the model's Encode. -/
namespace Go.Proofs.YtbkimmbfepjodaaDoorT
set_option maxRecDepth 100000
open Go.RowKit
open W (B8 Mx)
attribute [local go_sem ↓] Go.wp_at_zero Go.wp_at_succ
attribute [local irreducible] W.gm W.xs W.mm W.gi mx matOk addB mulT appX codeX

theorem SAns.broad {w : World} {v : Value} {L : List ByteArray} {lo hi lo' hi' : Nat} (h : SAns w v L lo hi) (h1 : lo' ≤ lo) (h2 : hi ≤ hi') : SAns w v L lo' hi' := by
  obtain ⟨a, cap, e, hc, q⟩ := h
  refine ⟨a, cap, e, hc, ?_⟩
  rcases q with rfl | ⟨g, rfl, q1, q2, hm⟩
  · exact .inl rfl
  · exact .inr ⟨g, rfl, by omega, by omega, hm⟩
theorem xsum_le {X : List (List Int)} {m : Nat} (h : ∀ x ∈ X, x.length ≤ m) : xsum X ≤ X.length * m := by
  induction X with
  | nil => simp [xsum]
  | cons x X ih =>
    have h1 := h x (by simp)
    have h2 := ih (fun y hy => h y (by simp [hy]))
    simp only [xsum, List.length_cons]
    rw [Nat.add_mul]; omega
end Go.Proofs.YtbkimmbfepjodaaDoorT
/- Rows of flags: their copies, their comparison, marks, and as values. -/
namespace Go.Proofs.YtbkimmbfepjodaaDoorT
set_option maxRecDepth 100000
open Go.RowKit
attribute [local go_sem ↓] Go.wp_at_zero Go.wp_at_succ

def bcs (xs : List Bool) : List Value := xs.map Value.bool
theorem bcs_len (xs : List Bool) : (bcs xs).length = xs.length := by simp [bcs]
theorem bcs_get (xs : List Bool) (j : Nat) (h : j < xs.length) : (bcs xs)[j]? = some (.bool (xs.getD j false)) := by simp [bcs, List.getD, h]
theorem bcs_set (xs : List Bool) (j : Nat) (x : Bool) : (bcs xs).set j (.bool x) = bcs (xs.set j x) := by simp [bcs, List.map_set]
theorem crow_bool {w : World} {a : Option Addr} {xs : List Bool} (h : CRow w a (bcs xs)) (hp : 0 < xs.length) : ∃ b off, a = some ⟨b, off, none⟩ ∧ b < w.heap.size ∧ ∀ j, j < xs.length → w.cell? ⟨b, off + j, none⟩ = some (.bool (xs.getD j false)) := by
  obtain ⟨b, off, e, hb, hc⟩ := h (by rw [bcs_len]; exact hp)
  exact ⟨b, off, e, hb, fun j hj => hc j _ (bcs_get xs j hj)⟩
theorem infoBoolG : (Tw.prog.info? 4).map (fun i => (i.zero, i.size, i.bytes)) = some (some (.bool false), 1, 1) := by kernel_rfl
/-- A value that is these flags. -/
def BSee (w : World) (v : Value) (H : List Bool) (lo hi : Nat) : Prop := ∃ (a : Option Addr) (cap : Nat), v = .slice a H.length cap ∧ RRow w a (bcs H) lo hi
/-- A value that is these flags, in memory of its own. -/
def BAns (w : World) (v : Value) (H : List Bool) (lo hi : Nat) : Prop := ∃ (a : Option Addr) (cap : Nat), v = .slice a H.length cap ∧ (H = [] ∨ ∃ g, a = some ⟨g, 0, none⟩ ∧ lo ≤ g ∧ g < hi ∧ WCells w g (bcs H))
theorem BAns.see {w : World} {v : Value} {H : List Bool} {lo hi : Nat} (h : BAns w v H lo hi) : BSee w v H lo hi := by
  obtain ⟨a, cap, e, h1⟩ := h
  refine ⟨a, cap, e, ?_⟩
  rcases h1 with rfl | ⟨g, rfl, h1, h2, h3⟩
  · intro h; simp [bcs] at h
  · exact RRow.of_wcells h3 h1 h2
end Go.Proofs.YtbkimmbfepjodaaDoorT
/- The model's Decode: what is in memory on the way. -/
namespace Go.Proofs.YtbkimmbfepjodaaDoorT
set_option maxRecDepth 100000
open Go.RowKit
open W (B8 Mx)
attribute [local irreducible] W.gm W.xs W.mm W.gi mx matOk addB mulT appX codeX

theorem RRow.grown {w w' : World} {a : Option Addr} {L : List Value} {lo hi : Nat} {r : Option Nat} (h : RRow w a L lo hi) (hg : w.grownBy w' r) (hr : ∀ q, r = some q → q < lo ∨ hi ≤ q) : RRow w' a L lo hi := fun hp => by
  obtain ⟨b, off, e, h1, h2, h3, h4⟩ := h hp
  refine ⟨b, off, e, h1, h2, Nat.lt_of_lt_of_le h3 hg.size, fun i v hv => (World.cell?_of_block (a := ⟨b, off + i, none⟩) (hg.block b h3 (fun q => ?_))).trans (h4 i v hv)⟩
  have := hr b q.symm
  omega
theorem MR.grown {w w' : World} {a : Option Addr} {ss : List SR} {lo hi : Nat} {r : Option Nat} (h : MR w a ss lo hi) (hg : w.grownBy w' r) (hr : ∀ q, r = some q → q < lo ∨ hi ≤ q) : MR w' a ss lo hi := ⟨h.1.grown hg hr, fun s hs => (h.2 s hs).grown hg hr⟩
/-- Rows and units that were picked so far; the code beside them. -/
structure DecS (C : Nat) (w0 wr : World) (gc : Nat) (css : List SR) (vr vu : Value) (ts : List SR) (U : List ByteArray) : Prop where
  ownR : wr.ownsRow w0.heap.size 52 1 vr ts.length (svs ts)
  ownU : wr.ownsRow w0.heap.size 9 1 vu U.length (tv U)
  placeR : ∀ q, vr.ownBlock = some q → q = w0.heap.size ∨ C ≤ q
  placeU : ∀ q, vu.ownBlock = some q → q = w0.heap.size + 1 ∨ C ≤ q
  apart : ∀ q, vr.ownBlock = some q → vu.ownBlock ≠ some q
  rows : ∀ s ∈ ts, RRow wr s.loc (ics s.row) (w0.heap.size + 2) C
  code : MR wr (some ⟨gc, 0, none⟩) css (w0.heap.size + 2) C
  bel : Below w0.heap.size w0 wr
  size : C ≤ wr.heap.size
theorem own_ne {a b : Option Nat} (h : ∀ q, a = some q → b ≠ some q) : b = none ∨ b ≠ a := by
  cases b with
  | none => exact .inl rfl
  | some q => exact .inr fun e => h q e.symm rfl
theorem own_ne' {a b : Option Nat} (h : ∀ q, a = some q → b ≠ some q) : a = none ∨ a ≠ b := by
  cases a with
  | none => exact .inl rfl
  | some q => exact .inr fun e => h q rfl e.symm
theorem DecS.addRow {C : Nat} {w0 wr w6 : World} {gc g cap : Nat} {css ts : List SR} {vr vu : Value} {U : List ByteArray} {o : Obj} {s0 : SR} (h : DecS C w0 wr gc css vr vu ts U) (hs : RRow wr s0.loc (ics s0.row) (w0.heap.size + 2) C)
    (hown : w6.ownsRow w0.heap.size 52 1 (.slice (some ⟨g, 0, none⟩) (ts.length + 1) cap) (ts.length + 1) (svs ts ++ [srv s0])) (hg : (wr.alloc o).grownBy w6 vr.ownBlock) (hat : vr.ownBlock = some g ∨ g = wr.heap.size + 1) :
    DecS C w0 w6 gc css (.slice (some ⟨g, 0, none⟩) (ts.length + 1) cap) vu (ts ++ [s0]) U := by
  have hal : Below wr.heap.size wr (wr.alloc o) := (Below.refl _ _).alloc (Nat.le_refl _) o
  have hS := h.bel.size
  have hp : ∀ q, vr.ownBlock = some q → q < w0.heap.size + 2 ∨ C ≤ q := fun q hq => by rcases h.placeR q hq with e | e <;> omega
  have hq : ∀ q, (Value.slice (some ⟨g, 0, none⟩) (ts.length + 1) cap).ownBlock = some q → q = g := fun q hq => by simp [Value.ownBlock] at hq; exact hq.symm
  have hsz : w0.heap.size ≤ (wr.alloc o).heap.size := Nat.le_trans hS hal.size
  refine ⟨?_, (h.ownU.alloc o).kept hg (own_ne h.apart), fun q e => ?_, h.placeU, fun q e => ?_, fun s hs' => ?_, (h.code.below hal).grown hg hp, (h.bel.alloc hS o).grown hg hsz (fun q hq => (h.ownR.lt q hq).1), by have := hg.size; have := hal.size; have := h.size; omega⟩
  · have e : svs (ts ++ [s0]) = svs ts ++ [srv s0] := by simp [svs]
    rw [e, List.length_append, List.length_singleton]
    exact hown
  · rw [hq q e]
    rcases hat with e2 | e2
    · exact h.placeR g e2
    · have := h.size; omega
  · rw [hq q e]
    rcases hat with e2 | e2
    · exact h.apart g e2
    · intro e3
      have := (h.ownU.lt g e3).2
      omega
  · rcases List.mem_append.1 hs' with q | q
    · exact ((h.rows s q).below hal).grown hg hp
    · simp at q; subst q
      exact (hs.below hal).grown hg hp
theorem DecS.addUnit {C : Nat} {w0 wr w6 : World} {gc g cap : Nat} {css ts : List SR} {vr vu : Value} {U : List ByteArray} {o : Obj} {x : ByteArray} (h : DecS C w0 wr gc css vr vu ts U)
    (hown : w6.ownsRow w0.heap.size 9 1 (.slice (some ⟨g, 0, none⟩) (U.length + 1) cap) (U.length + 1) (tv U ++ [.string x])) (hg : (wr.alloc o).grownBy w6 vu.ownBlock) (hat : vu.ownBlock = some g ∨ g = wr.heap.size + 1) :
    DecS C w0 w6 gc css vr (.slice (some ⟨g, 0, none⟩) (U.length + 1) cap) ts (U ++ [x]) := by
  have hal : Below wr.heap.size wr (wr.alloc o) := (Below.refl _ _).alloc (Nat.le_refl _) o
  have hS := h.bel.size
  have hp : ∀ q, vu.ownBlock = some q → q < w0.heap.size + 2 ∨ C ≤ q := fun q hq => by rcases h.placeU q hq with e | e <;> omega
  have hq : ∀ q, (Value.slice (some ⟨g, 0, none⟩) (U.length + 1) cap).ownBlock = some q → q = g := fun q hq => by simp [Value.ownBlock] at hq; exact hq.symm
  have hsz : w0.heap.size ≤ (wr.alloc o).heap.size := Nat.le_trans hS hal.size
  refine ⟨(h.ownR.alloc o).kept hg (own_ne' h.apart), ?_, h.placeR, fun q e => ?_, fun q e => ?_, fun s hs' => ((h.rows s hs').below hal).grown hg hp, (h.code.below hal).grown hg hp, (h.bel.alloc hS o).grown hg hsz (fun q hq => (h.ownU.lt q hq).1), by have := hg.size; have := hal.size; have := h.size; omega⟩
  · rw [← tv_snoc, List.length_append, List.length_singleton]
    exact hown
  · rw [hq q e]
    rcases hat with e2 | e2
    · exact h.placeU g e2
    · have := h.size; omega
  · intro e3
    have e4 := hq q e3
    subst e4
    rcases hat with e2 | e2
    · exact h.apart q e e2
    · have := (h.ownR.lt q e).2
      omega
/-- What is read of the rows at the end. -/
theorem DecS.see {C : Nat} {w0 wr : World} {gc : Nat} {css ts : List SR} {vr vu : Value} {U : List ByteArray} (h : DecS C w0 wr gc css vr vu ts U) (hp : 0 < ts.length) : MSee wr vr (rws ts) 0 wr.heap.size := by
  obtain ⟨g, cap, e, hc⟩ := own_some h.ownR hp
  have hown := h.ownR
  rw [e] at hown
  refine ⟨_, cap, ts, e, rfl, RRow.of_wcells (own_wcells hown) (Nat.zero_le _) (own_wcells hown).1, fun s hs' => (h.rows s hs').wide (Nat.zero_le _) h.size⟩
/-- Step by step: the places that are there. -/
theorem pick_yes {s : Int} {H : List Bool} {i : Nat} (h : H.getD i false = true) (hl : (thereI H i).length < schK s) : pickI s H (i + 1) = pickI s H i ++ [i] ∧ pickI s H i = thereI H i := by
  unfold pickI
  rw [thereI_succ, if_pos h, List.take_of_length_le (by simp; omega), List.take_of_length_le (by omega)]
  exact ⟨rfl, rfl⟩
theorem pick_full {s : Int} {H : List Bool} {i : Nat} (hl : ¬ (thereI H i).length < schK s) : pickI s H (i + 1) = pickI s H i := by
  unfold pickI
  rw [thereI_succ, List.take_append_of_le_length (by omega)]
theorem pick_no {s : Int} {H : List Bool} {i : Nat} (h : ¬ H.getD i false = true) : pickI s H (i + 1) = pickI s H i ∧ thereI H (i + 1) = thereI H i := by
  have e : thereI H (i + 1) = thereI H i := by rw [thereI_succ, if_neg h, List.append_nil]
  unfold pickI
  rw [e]
  exact ⟨rfl, rfl⟩
theorem pick_len (s : Int) (H : List Bool) (i : Nat) : (pickI s H i).length = min (schK s) (thereI H i).length := by unfold pickI; rw [List.length_take]
/-- The size that is kept on the way. -/
def SizeAt (L : List ByteArray) (H : List Bool) (i : Nat) (z : Int) : Prop := (thereI H i = [] ∧ z = -1) ∨ ((thereI H i ≠ []) ∧ 0 ≤ z ∧ ∀ j ∈ thereI H i, ((L.getD j ⟨#[]⟩).size : Int) = z)
theorem SizeAt.one {L : List ByteArray} {H : List Bool} {i : Nat} {z : Int} (h : SizeAt L H i z) : OneLen L H i := by
  intro a ha b hb
  rcases h with ⟨e, _⟩ | ⟨_, _, h⟩
  · rw [e] at ha; simp at ha
  · have h1 := h a ha
    have h2 := h b hb
    omega
theorem SizeAt.next {L : List ByteArray} {H : List Bool} {i : Nat} {z : Int} (h : SizeAt L H i z) (hh : H.getD i false = true) (hz : 0 ≤ z → ((L.getD i ⟨#[]⟩).size : Int) = z) : SizeAt L H (i + 1) ((L.getD i ⟨#[]⟩).size : Int) := by
  right
  rw [thereI_succ, if_pos hh]
  refine ⟨by simp, by omega, fun j hj => ?_⟩
  rcases List.mem_append.1 hj with q | q
  · rcases h with ⟨e, _⟩ | ⟨_, h0, h⟩
    · rw [e] at q; simp at q
    · rw [h j q, hz h0]
  · simp at q; subst q; rfl
theorem SizeAt.skip {L : List ByteArray} {H : List Bool} {i : Nat} {z : Int} (h : SizeAt L H i z) (hh : ¬ H.getD i false = true) : SizeAt L H (i + 1) z := by
  have e : thereI H (i + 1) = thereI H i := by rw [thereI_succ, if_neg hh, List.append_nil]
  unfold SizeAt
  rw [e]
  exact h
theorem SizeAt.bad {L : List ByteArray} {H : List Bool} {i n : Nat} {z : Int} (h : SizeAt L H i z) (hh : H.getD i false = true) (h0 : 0 ≤ z) (hz : ((L.getD i ⟨#[]⟩).size : Int) ≠ z) (hi : i < n) : ¬ OneLen L H n := by
  intro ho
  rcases h with ⟨_, e⟩ | ⟨hne, _, h⟩
  · omega
  · obtain ⟨j, r, hj⟩ := List.exists_cons_of_ne_nil hne
    have hjm : j ∈ thereI H i := by rw [hj]; simp
    obtain ⟨q1, q2⟩ := thereI_mem.1 hjm
    have := ho j (thereI_mem.2 ⟨by omega, q2⟩) i (thereI_mem.2 ⟨hi, hh⟩)
    have h2 := h j hjm
    omega
end Go.Proofs.YtbkimmbfepjodaaDoorT
/- The walk of the exact law over MatrixOk, over what is told of the program. -/
namespace Go.Proofs.YtbkimmbfepjodaaDoorT
set_option maxRecDepth 100000
open Go.RowKit
attribute [local irreducible] matOk xsum

theorem fit_square {n m : Nat} {X : List (List Int)} (hn : X.length ≤ n) (hm : ∀ x ∈ X, x.length ≤ m) (h : n + n * m ≤ 1048576) : MFit X := by
  have hx : xsum X ≤ X.length * m := by
    clear hn h
    induction X with
    | nil => simp [xsum]
    | cons x X ih =>
      have h1 := hm x (by simp)
      have h2 := ih (fun y hy => hm y (by simp [hy]))
      simp only [xsum, List.length_cons]
      rw [Nat.add_mul]; omega
  unfold MFit
  have := Nat.mul_le_mul_right m hn
  omega
end Go.Proofs.YtbkimmbfepjodaaDoorT
/- Rows that are answered are rows that a machine can hold. -/
namespace Go.Proofs.YtbkimmbfepjodaaDoorT
set_option maxRecDepth 100000
open Go.RowKit
open W (B8 Mx)
attribute [local irreducible] W.gm W.xs W.mm W.gi mx invX oneX matOk xsum

theorem fit_inv (X : List (List Int)) : MFit (invX X).1 := by
  by_cases h : ∃ Y, IsInv X Y
  · obtain ⟨Y, h⟩ := h
    rw [invX_yes h]
    obtain ⟨⟨_, h1⟩, _, _⟩ := matOk_iff h.1
    exact fit_square (n := 8) (m := 8) (by rw [h.2.2.1.len]; exact h1) (fun y hy => by rw [(h.2.2.1.row y hy).1]; exact h1) (by omega)
  · rw [invX_no h]; unfold MFit; simp [xsum]
end Go.Proofs.YtbkimmbfepjodaaDoorT
/- The walks of the models' Decode and Rebuild. -/
namespace Go.Proofs.YtbkimmbfepjodaaDoorT
set_option maxRecDepth 100000
open Go.RowKit
open W (B8 Mx)
attribute [local go_sem ↓] Go.wp_at_zero Go.wp_at_succ
attribute [local irreducible] W.gm W.xs W.mm W.gi mx matOk addB mulT appX codeX invX decX

theorem own_slice {w : World} {B n sz : Nat} {t : TypeId} {v : Value} {L : List Value} (h : w.ownsRow B t sz v n L) : ∃ a cap, v = .slice a n cap := by
  rcases h.2 with ⟨e, h0⟩ | ⟨g, cap, _, rfl, _, _, _, _⟩
  · exact ⟨none, 0, by rw [e, h0]⟩
  · exact ⟨_, cap, rfl⟩
theorem rowsP_snoc (s : Int) (I : List Nat) (i : Nat) : rowsP s (I ++ [i]) = rowsP s I ++ [(codeX s).getD i []] := by simp [rowsP]
theorem unitsP_snoc (L : List ByteArray) (I : List Nat) (i : Nat) : unitsP L (I ++ [i]) = unitsP L I ++ [L.getD i ⟨#[]⟩] := by simp [unitsP]
theorem rowsP_len (s : Int) (I : List Nat) : (rowsP s I).length = I.length := by simp [rowsP]
theorem unitsP_len (L : List ByteArray) (I : List Nat) : (unitsP L I).length = I.length := by simp [unitsP]
theorem rowsP_fit {s : Int} (h : schOk s = true) {I : List Nat} (hI : I.length ≤ 8) (hm : ∀ i ∈ I, i < schK s + schM s) : MFit (rowsP s I) := by
  obtain ⟨b1, b2, b3, b4⟩ := sch_bounds h
  have h2 := xsum_le (X := rowsP s I) (m := 4) (fun x hx => by
    obtain ⟨i, hi, rfl⟩ := List.mem_map.1 hx
    have := (codeX_at h (hm i hi)).1
    omega)
  unfold MFit
  rw [rowsP_len] at *
  omega
theorem pick_mem {s : Int} {H : List Bool} {n i : Nat} (h : i ∈ pickI s H n) : i < n ∧ H.getD i false = true := thereI_mem.1 (List.mem_of_mem_take h)
theorem units_sub (L : List ByteArray) {I : List Nat} (h : I.Sublist (List.range L.length)) : (unitsP L I).Sublist L := by
  have : (List.range L.length).map (fun i => L.getD i ⟨#[]⟩) = L := by
    apply List.ext_getElem (by simp)
    intro i h1 h2
    simp [List.getD, h2]
  have h2 := h.map (fun i => L.getD i ⟨#[]⟩)
  rw [this] at h2
  exact h2
theorem pick_sub (s : Int) (H : List Bool) (n : Nat) : (pickI s H n).Sublist (List.range n) := (List.take_sublist _ _).trans List.filter_sublist
theorem units_tfitU {L : List ByteArray} (hf : UFit L) (s : Int) (H : List Bool) : UFit (unitsP L (pickI s H L.length)) := by
  have h1 := units_sub L (pick_sub s H L.length)
  exact ⟨Nat.le_trans h1.length_le hf.1, fun x hx => hf.2 x (h1.subset hx)⟩
set_option maxRecDepth 100000 in
set_option maxHeartbeats 8000000 in
theorem specDecode_walk (s : Int) (L : List ByteArray) (H : List Bool) (k m n b2 o2 cap2 b3 o3 cap3 : Nat) (w : World) (hs : schOk s = true) (hk : schK s = k) (hm : schM s = m) (hn : n = k + m) (hl : L.length = n) (hh : H.length = n)
    (hU : b2 < w.heap.size ∧ ∀ j, j < n → w.cell? ⟨b2, o2 + j, none⟩ = some (.string (L.getD j ⟨#[]⟩))) (hV : b3 < w.heap.size ∧ ∀ j, j < n → w.cell? ⟨b3, o3 + j, none⟩ = some (.bool (H.getD j false))) (hf : UFit L) :
    Calls Tw.prog 11 #[.int .i64 s, .slice (some ⟨b2, o2, none⟩) n cap2, .slice (some ⟨b3, o3, none⟩) n cap3] w fun e w' => TPost (decX s L H) w e w' := by
  obtain ⟨i0, hi0, hz0, hz1, hz2⟩ := info_parts infoTextG
  obtain ⟨i1, hi1, hy0, hy1, hy2⟩ := info_parts infoRow
  obtain ⟨c1, c2, c3, c4⟩ := sch_bounds hs
  rw [hk] at c1 c2
  rw [hm] at c3 c4
  have HS := Shut.mk (fun W => specSchema s W)
  unfold SchPost at HS
  rw [hs, hk, hm] at HS
  have HU := Shut.mk hU
  have HV := Shut.mk hV
  have HL := Shut.mk (And.intro hl hh)
  have HOK := Shut.mk (And.intro hs (And.intro hk hm))
  have HF := Shut.mk hf
  have HNN : Hid (n = k + m) := hn
  have hnk : ((n : Int) != (k : Int) + (m : Int)) = false := by rw [hn]; push_cast; simp
  have hni : (k : Int) + (m : Int) = (n : Int) := by omega
  have hn6 : n ≤ 6 := by omega
  have hn3 : 3 ≤ n := by omega
  have hkn : k ≤ n := by omega
  have HAL := Shut.mk (show Below w.heap.size w ((w.alloc (.cells #[] 52)).alloc (.cells #[] 9)) from ((Below.refl _ _).alloc (Nat.le_refl _) _).alloc (by simp) _)
  have HOR := Shut.mk ((World.ownsRow_made (base := w.heap.size) (e := 52) (size := 1) w #[] 0 (Nat.le_refl _) (by decide) rfl).alloc (.cells #[] 9))
  have HOU := Shut.mk (World.ownsRow_made (base := w.heap.size) (e := 9) (size := 1) (w.alloc (.cells #[] 52)) #[] 0 (by simp) (by decide) rfl)
  have HCO := Shut.mk (fun W => specCodeOf s W)
  clear hU hV hl hh hf hs hk hm hn
  go_enter Tw.func11, Tw.ntmps11
  go_wp2_with fail
  refine (HS.out _).mono ?_
  rintro e w0 ⟨rfl, rfl⟩
  go_wp2_with fail
  refine (HCO.out _).mono ?_
  rintro e wc ⟨vc, rfl, hac, hbc⟩
  have hcl : (codeX s).length = n := by rw [codeX_len HOK.out.1, HOK.out.2.1, HOK.out.2.2]; exact HNN.out.symm
  obtain ⟨ac, capc, css, rfl, hrc, hcc, qc⟩ := hac
  have hls : css.length = n := by rw [← rws_len, hrc, hcl]
  obtain ⟨gc, rfl, hmc⟩ : ∃ gc, ac = some ⟨gc, 0, none⟩ ∧ MW wc gc css ((w0.alloc (.cells #[] 52)).alloc (.cells #[] 9)).heap.size wc.heap.size := by
    rcases qc with rfl | qc
    · simp at hls; omega
    · exact qc
  have hS2 : ((w0.alloc (.cells #[] 52)).alloc (.cells #[] 9)).heap.size = w0.heap.size + 2 := by simp
  have hgn : ∀ r, ((w0.alloc (.cells #[] 52)).alloc (.cells #[] 9)).grownBy wc r := fun r => ⟨hbc.os, hbc.tape, hbc.output, hbc.size, fun k hk _ => hbc.block k hk⟩
  have hcs := hbc.size
  rw [hS2] at hmc hcs
  have HD0 : Shut (DecS wc.heap.size w0 wc gc css (.slice (some ⟨w0.heap.size, 0, none⟩) 0 0) (.slice (some ⟨w0.heap.size + 1, 0, none⟩) 0 0) [] []) := ⟨by
    refine ⟨HOR.out.kept (hgn none) (Classical.em _), ?_, fun q hq => ?_, fun q hq => ?_, fun q hq hq2 => ?_, by simp, hmc.mr, HAL.out.trans (hbc.mono (by simp; omega)), Nat.le_refl _⟩
    · have := HOU.out.kept (hgn none) (Classical.em _)
      simpa [tv] using this
    · simp [Value.ownBlock] at hq; omega
    · simp [Value.ownBlock] at hq; omega
    · simp [Value.ownBlock] at hq hq2; omega⟩
  have HRC := Shut.mk hrc
  have HLS : Hid (css.length = n) := hls
  rw [hls]
  have HBC := Shut.mk (HAL.out.trans (hbc.mono (by simp; omega)))
  clear qc hmc hrc hls hcl hgn hbc hcc HOR HOU HAL HCO hS2
  go_wp2_with fail
  go_loopw [11, 12, 13, 15] (fun vr vu zz ii wr => ∃ (i : Nat) (z : Int) (ts : List SR) (vr' vu' : Value), vr' = vr ∧ vu' = vu ∧ zz = .int .i64 z ∧ ii = .int .i64 (i : Nat) ∧ i ≤ n ∧ (-1 ≤ z ∧ z ≤ 1048576) ∧ ts.length = (pickI s H i).length ∧ Shut (rws ts = rowsP s (pickI s H i)) ∧ Shut (SizeAt L H i z) ∧ Shut (DecS wc.heap.size w0 wr gc css vr' vu' ts (unitsP L (pickI s H i)))) (fun _ _ _ ii _ => n - (intOf ii).toNat)
  case atStart => exact ⟨0, -1, [], _, _, rfl, rfl, rfl, rfl, Nat.zero_le _, ⟨by omega, by omega⟩, by simp [pickI, thereI], ⟨by simp [rws, rowsP, pickI, thereI]⟩, ⟨.inl ⟨by simp [thereI], rfl⟩⟩, ⟨by have := HD0.out; simpa [unitsP, pickI, thereI] using this⟩⟩
  case round =>
    clear HD0
    obtain ⟨i, z, ts, vr, vu, rfl, rfl, rfl, rfl, hin, hzb, htl, hrw, hsz, hD⟩ := hrel
    obtain ⟨wo, rfl⟩ : ∃ wo, wo = wr := ⟨_, rfl⟩
    obtain ⟨ar, cr, rfl⟩ := own_slice hD.out.ownR
    have htk : ts.length = min k (thereI H i).length := by rw [htl, pick_len, HOK.out.2.1]
    obtain ⟨tl, htl'⟩ : ∃ tl, tl = ts.length := ⟨_, rfl⟩
    have HTL : Hid (tl = ts.length) := htl'
    have htk' : tl = min k (thereI H i).length := by rw [htl', htk]
    rw [← htl']
    by_cases hlt : i < n
    · have hlt' : (i : Int) < (n : Int) := by omega
      have i0' : (0 : Int) ≤ (i : Int) := by omega
      have hso := hD.out.bel.size
      have d3 := (hD.out.bel.cell (p := ⟨b3, o3 + i, none⟩) HV.out.1).trans (HV.out.2 i hlt)
      have d2 := (hD.out.bel.cell (p := ⟨b2, o2 + i, none⟩) HU.out.1).trans (HU.out.2 i hlt)
      by_cases hhi : H.getD i false = true
      · rw [hhi] at d3
        have hil : i < L.length := by rw [HL.out.1]; exact hlt
        have hxz : (L.getD i ⟨#[]⟩).size ≤ 1048576 := by
          exact HF.out.2 _ (by simp [List.getD, hil])
        by_cases hbad : 0 ≤ z ∧ ((L.getD i ⟨#[]⟩).size : Int) ≠ z
        · have HNO := Shut.mk (decX_no (s := s) (L := L) (H := H) (fun h => (hsz.out.bad hhi hbad.1 hbad.2 (by rw [HL.out.2]; exact hlt)) h.1.2.2.2.1))
          have HB := Shut.mk hD.out.bel
          have hz0' : (0 : Int) ≤ z := hbad.1
          have hne : (((L.getD i ⟨#[]⟩).size : Int) != z) = true := by rw [bne_iff_ne]; exact hbad.2
          generalize L.getD i ⟨#[]⟩ = x at *
          clear hbad hhi hsz hD htk htk' htl htl' hrw
          go_wp2_with fail
          go_ret2
          exact tpost_no HNO.out rfl (HB.out.alloc HB.out.size _)
        · have HSZ := Shut.mk (hsz.out.next hhi (fun h0 => by
            by_cases e : ((L.getD i ⟨#[]⟩).size : Int) = z
            · exact e
            · exact absurd ⟨h0, e⟩ hbad))
          have hzz : (0 ≤ z ∧ (((L.getD i ⟨#[]⟩).size : Int) != z) = false) ∨ ¬ (0 : Int) ≤ z := by
            by_cases h0 : 0 ≤ z
            · have : ((L.getD i ⟨#[]⟩).size : Int) = z := by
                by_cases e : ((L.getD i ⟨#[]⟩).size : Int) = z
                · exact e
                · exact absurd ⟨h0, e⟩ hbad
              exact .inl ⟨h0, by rw [this]; simp⟩
            · exact .inr h0
          by_cases hful : (thereI H i).length < k
          · obtain ⟨p1, p2⟩ := pick_yes (s := s) hhi (by rw [HOK.out.2.1]; exact hful)
            have htlk : tl = (thereI H i).length := by omega
            have htk3 : (tl : Int) < (k : Int) := by omega
            have his : i < css.length := by rw [HLS.out]; exact hlt
            have hc4 := (hD.out.code.at (by omega))
            obtain ⟨bc, oc, ec, lbc, hcc⟩ := hc4
            obtain ⟨rfl, rfl⟩ : bc = gc ∧ oc = 0 := by simp at ec; exact ⟨ec.1.symm, ec.2.symm⟩
            have d4 := hcc i his
            rw [Nat.zero_add] at d4
            have hcr := hD.out.code.2 css[i] (List.getElem_mem his)
            have hrow : css[i].row = (codeX s).getD i [] := by
              have e1 := rws_get css i his
              rw [← e1]
              simp only [HRC.out]
              have : i < (codeX s).length := by rw [← HRC.out, rws_len]; exact his
              simp [List.getD, this]
            obtain ⟨s0, hs0⟩ : ∃ s0, s0 = css[i] := ⟨_, rfl⟩
            rw [← hs0] at d4 hcr hrow
            unfold srv at d4
            have HS0 := Shut.mk (And.intro hcr hrow)
            have HP := Shut.mk (And.intro p1 p2)
            rw [← htl'] at hD
            have hownR := hD.out.ownR
            rw [← htl'] at hownR
            obtain ⟨L0, hL0⟩ : ∃ l, l = s0.loc := ⟨_, rfl⟩
            obtain ⟨N0, hN0⟩ : ∃ l, l = s0.row.length := ⟨_, rfl⟩
            obtain ⟨C0, hC0⟩ : ∃ l, l = s0.cap := ⟨_, rfl⟩
            rw [← hL0, ← hN0, ← hC0] at d4
            have HS1 : Shut (srv s0 = .slice L0 N0 C0) := ⟨by unfold srv; rw [hL0, hN0, hC0]⟩
            have HTLE : Hid (tl = ts.length) := htl'
            have HHI := Shut.mk (And.intro htl hrw.out)
            have HX := Shut.mk hxz
            obtain ⟨x, hx⟩ : ∃ x, x = L.getD i ⟨#[]⟩ := ⟨_, rfl⟩
            rw [← hx] at d2 hzz hxz
            have HXX : Hid (x = L.getD i ⟨#[]⟩) := hx
            clear hbad hhi hsz htk htk' htl htl' hrw hcr hrow hs0 hcc p1 p2 hx hL0 hN0 hC0 HX ec htlk hful
            rcases hzz with ⟨h0, hne⟩ | h0
            all_goals
              go_wp2_with (at_builtin; refine wpList_append_lies _ rfl _ _ 50 rfl w0.heap.size 52 i1 (.slice none 0 0) 1 24 Tw.underlying50 hi1 hy0 hy1 hy2 rfl (by decide) _ _ _ rfl (hownR.alloc _) ⟨wo.heap.size, 0, none⟩ 1 1 [.slice L0 N0 C0] rfl rfl (cell_one_new _ _ _) ?c2 (by decide) ?c3 ?c4 ?c5 (wo.heap.size + 1) (by simp) ?_)
              case c2 => first | rfl | (intro u hu; simp at hu; subst hu; rfl)
              case c3 => unfold maxLen; omega
              case c4 => omega
              case c5 => first | omega | (simp; omega)
              intro g6 cap6 w6 hown6 hgrow6 hat6 _
              have hd6 := hD.out.addRow (s0 := s0) HS0.out.1 (by rw [← HTLE.out, HS1.out]; exact hown6) hgrow6 hat6
              rw [← HTLE.out] at hd6
              have HD6 := Shut.mk hd6
              have d5 := (hd6.bel.cell (p := ⟨b2, o2 + i, none⟩) HU.out.1).trans (HU.out.2 i hlt)
              rw [← HXX.out] at d5
              have hownU := hd6.ownU
              have hso6 := hd6.bel.size
              have hul : (unitsP L (pickI s H i)).length = tl := by rw [unitsP_len, ← HHI.out.1, HTLE.out]
              rw [hul] at hownU
              have HUL : Hid ((unitsP L (pickI s H i)).length = tl) := hul
              clear hown6 hgrow6 hat6 hd6 d4 hul
              go_wp2_with (at_builtin; refine wpList_append_lies _ rfl _ _ 34 rfl w0.heap.size 9 i0 (.string ⟨#[]⟩) 1 16 Tw.underlying34 hi0 hz0 hz1 hz2 rfl (by decide) _ _ _ rfl (hownU.alloc _) ⟨w6.heap.size, 0, none⟩ 1 1 [.string x] rfl rfl (cell_one_new _ _ _) ?c2 (by decide) ?c3 ?c4 ?c5 (w6.heap.size + 1) (by simp) ?_)
              case c2 => first | rfl | (intro u hu; simp at hu; subst hu; rfl)
              case c3 => unfold maxLen; omega
              case c4 => omega
              case c5 => first | omega | (simp; omega)
              intro g7 cap7 w7 hown7 hgrow7 hat7 _
              have hd7 := HD6.out.addUnit (x := x) (by rw [HUL.out]; exact hown7) hgrow7 hat7
              rw [HXX.out, ← unitsP_snoc, ← HP.out.1, HUL.out] at hd7
              have HD7 := Shut.mk hd7
              have HR7 : Shut (rws (ts ++ [s0]) = rowsP s (pickI s H (i + 1))) := ⟨by rw [rws_snoc, HHI.out.2, HP.out.1, rowsP_snoc, HS0.out.2]⟩
              have HT7 : Hid ((ts ++ [s0]).length = (pickI s H (i + 1)).length) := by rw [HP.out.1, List.length_append, List.length_append, HHI.out.1]; rfl
              clear hown7 hgrow7 hat7 hd7 HD6 d5 hownU hownR
              go_wp2_with fail
              go_roundw
              case rel => exact ⟨i + 1, _, ts ++ [s0], _, _, rfl, rfl, rfl, by go_num, by omega, ⟨by omega, by omega⟩, HT7.out, HR7, by rw [HXX.out]; exact HSZ, HD7⟩
              case measure => simp [intOf]; omega
          · have p1 := pick_full (s := s) (H := H) (i := i) (by rw [HOK.out.2.1]; exact hful)
            have htk3 : ¬ (tl : Int) < (k : Int) := by omega
            have HTS : Hid (ts.length = (pickI s H (i + 1)).length) := by rw [p1]; exact htl
            have HRW : Shut (rws ts = rowsP s (pickI s H (i + 1))) := by rw [p1]; exact hrw
            have HDD : Shut (DecS wc.heap.size w0 wo gc css (.slice ar ts.length cr) vu ts (unitsP L (pickI s H (i + 1)))) := by rw [p1]; exact hD
            rw [← htl'] at HDD
            obtain ⟨x, hx⟩ : ∃ x, x = L.getD i ⟨#[]⟩ := ⟨_, rfl⟩
            rw [← hx] at d2 hzz hxz HSZ
            clear hbad hhi hsz hD htk htk' htl htl' hrw p1 hx hful
            rcases hzz with ⟨h0, hne⟩ | h0
            all_goals
              go_wp2_with fail
              go_roundw
              case rel => exact ⟨i + 1, _, ts, _, _, rfl, rfl, rfl, by go_num, by omega, ⟨by omega, by omega⟩, HTS.out, HRW, HSZ, HDD⟩
              case measure => simp [intOf]; omega
      · have hhf : H.getD i false = false := by simpa using hhi
        rw [hhf] at d3
        obtain ⟨p1, p2⟩ := pick_no (s := s) hhi
        have HSZ := Shut.mk (hsz.out.skip hhi)
        have HTS : Hid (ts.length = (pickI s H (i + 1)).length) := by rw [p1]; exact htl
        have HRW : Shut (rws ts = rowsP s (pickI s H (i + 1))) := by rw [p1]; exact hrw
        have HDD : Shut (DecS wc.heap.size w0 wo gc css (.slice ar ts.length cr) vu ts (unitsP L (pickI s H (i + 1)))) := by rw [p1]; exact hD
        rw [← htl'] at HDD
        clear hhi hhf p1 p2 hsz hD htk htk' htl htl' hrw d2
        go_wp2_with fail
        go_roundw
        case rel => exact ⟨i + 1, z, ts, _, _, rfl, rfl, rfl, by go_num, by omega, hzb, HTS.out, HRW, HSZ, HDD⟩
        case measure => simp [intOf]; omega
    · have e : i = n := by omega
      subst e
      have hlt' : ¬ (i : Int) < (i : Int) := by omega
      have hso := hD.out.bel.size
      by_cases hen : tl < k
      · have hen' : (tl : Int) < (k : Int) := by omega
        have HNO := Shut.mk (decX_no (s := s) (L := L) (H := H) (fun h => by
          have := h.1.2.2.2.2
          rw [HL.out.2, HOK.out.2.1] at this
          omega))
        have HB := Shut.mk hD.out.bel
        clear hsz hD htk htk' htl htl' hrw
        go_wp2_with fail
        go_ret2
        exact tpost_no HNO.out rfl (HB.out.alloc HB.out.size _)
      · have hen' : ¬ (tl : Int) < (k : Int) := by omega
        have HDOK : Shut (DecOk s L H) := ⟨⟨HOK.out.1, by rw [HOK.out.2.1, HOK.out.2.2, HL.out.1]; exact HNN.out, by rw [HOK.out.2.1, HOK.out.2.2, HL.out.2]; exact HNN.out, by rw [HL.out.2]; exact hsz.out.one, by rw [HL.out.2, HOK.out.2.1]; omega⟩⟩
        have hsee := hD.out.see (by omega)
        rw [hrw.out, ← htl'] at hsee
        have hIl : (pickI s H i).length ≤ 8 := by rw [← htl]; omega
        have hfit : MFit (rowsP s (pickI s H i)) := rowsP_fit HOK.out.1 hIl (fun j hj => by have := (pick_mem hj).1; rw [HOK.out.2.1, HOK.out.2.2, ← HNN.out]; exact this)
        have HINV := Shut.mk (specInvM hsee hfit)
        have HSA := Shut.mk (own_sans (w := w0) rfl hD.out.ownU)
        have hTF := units_tfitU HF.out s H
        rw [HL.out.1] at hTF
        have HTF := Shut.mk hTF
        have HB := Shut.mk hD.out.bel
        have HDEC := Shut.mk (fun hb => decX_yes (s := s) (L := L) (H := H) HDOK.out hb)
        have HDNO := Shut.mk (fun hb => decX_no (s := s) (L := L) (H := H) hb)
        rw [HL.out.2] at HDEC HDNO
        generalize rowsP s (pickI s H i) = R at *
        clear hsz hD htk htk' htl htl' hrw hsee hfit hTF hIl
        go_wp2_with fail
        refine HINV.out.mono ?_
        rintro e w8 ⟨v8, rfl, ha8, hb8⟩
        have HB8 := Shut.mk (HB.out.trans (hb8.mono HB.out.size))
        cases hb : (invX R).2 with
        | false =>
          have HNO := Shut.mk (HDNO.out (fun h => by rw [hb] at h; cases h.2))
          clear ha8 hb8 HINV HDEC HDNO hb
          go_wp2_with fail
          go_ret2
          exact tpost_no HNO.out rfl (HB8.out.alloc HB8.out.size _)
        | true =>
          have HYES := Shut.mk (HDEC.out hb)
          have HAP := Shut.mk (specApplyMU ha8.see (HSA.out.see.below hb8) (fit_inv R) HTF.out)
          clear ha8 hb8 HINV HDEC HDNO hb
          go_wp2_with fail
          refine HAP.out.mono ?_
          rintro e w9 ⟨v9, rfl, ha9, hb9⟩
          have HR := Shut.mk (show TPost (decX s L H) w0 (.returned (.tuple #[v9, .bool true])) w9 from ⟨v9, by rw [HYES.out], by rw [HYES.out]; exact ha9.broad HB8.out.size (Nat.le_refl _), HB8.out.trans (hb9.mono HB8.out.size)⟩)
          clear ha9 hb9 HAP
          go_wp2_with fail
          go_ret2
          exact HR.out
/-- Decode's model, at every argument. -/
theorem specDecodeU {w : World} {u v : Value} {L : List ByteArray} {H : List Bool} {lo hi lo' hi' : Nat} (s : Int) (hu : SSee w u L lo hi) (hv : BSee w v H lo' hi') (hf : UFit L) (hh : H.length ≤ 1048576) : Calls Tw.prog 11 #[.int .i64 s, u, v] w fun e w' => TPost (decX s L H) w e w' := by
  obtain ⟨a2, cap2, rfl, hm2⟩ := hu
  obtain ⟨a3, cap3, rfl, hm3⟩ := hv
  have hlf : L.length ≤ 1048576 := hf.1
  have HS := Shut.mk (fun W => specSchema s W)
  unfold SchPost at HS
  cases h : schOk s with
  | false =>
    have HNO := Shut.mk (decX_no (s := s) (L := L) (H := H) (fun q => by have := q.1.1; rw [h] at this; cases this))
    rw [h] at HS
    clear h hm2 hm3 hf
    generalize schK s = k at *
    generalize schM s = m at *
    go_enter Tw.func11, Tw.ntmps11
    go_wp2_with fail
    refine (HS.out _).mono ?_
    rintro e w0 ⟨rfl, rfl⟩
    go_wp2_with fail
    go_ret2
    exact tpost_no HNO.out rfl ((Below.refl _ _).alloc (Nat.le_refl _) _)
  | true =>
    obtain ⟨b1, b2, b3, b4⟩ := sch_bounds h
    by_cases hl : L.length = schK s + schM s
    · by_cases hl2 : H.length = schK s + schM s
      · obtain ⟨b, off, rfl, lb, hc⟩ := units_in hm2 (by omega)
        obtain ⟨b', off', rfl, lb', hc'⟩ := crow_bool hm3.crow (by omega)
        rw [hl, hl2]
        exact specDecode_walk s L H (schK s) (schM s) (schK s + schM s) b off cap2 b' off' cap3 w h rfl rfl rfl hl hl2 ⟨lb, fun j hj => hc j (by omega)⟩ ⟨lb', fun j hj => hc' j (by omega)⟩ hf
      · have HNO := Shut.mk (decX_no (s := s) (L := L) (H := H) (fun q => hl2 q.1.2.2.1))
        have hne : ((L.length : Int) != (schK s : Int) + (schM s : Int)) = false := by rw [hl]; push_cast; simp
        have hne2 : ((H.length : Int) != (schK s : Int) + (schM s : Int)) = true := by rw [bne_iff_ne]; omega
        rw [h] at HS
        generalize schK s = k at *
        generalize schM s = m at *
        clear h hm2 hm3 hf hl hl2
        go_enter Tw.func11, Tw.ntmps11
        go_wp2_with fail
        refine (HS.out _).mono ?_
        rintro e w0 ⟨rfl, rfl⟩
        go_wp2_with fail
        go_ret2
        exact tpost_no HNO.out rfl ((Below.refl _ _).alloc (Nat.le_refl _) _)
    · have HNO := Shut.mk (decX_no (s := s) (L := L) (H := H) (fun q => hl q.1.2.1))
      have hne : ((L.length : Int) != (schK s : Int) + (schM s : Int)) = true := by rw [bne_iff_ne]; omega
      rw [h] at HS
      generalize schK s = k at *
      generalize schM s = m at *
      clear h hm2 hm3 hf hl
      go_enter Tw.func11, Tw.ntmps11
      go_wp2_with fail
      refine (HS.out _).mono ?_
      rintro e w0 ⟨rfl, rfl⟩
      go_wp2_with fail
      go_ret2
      exact tpost_no HNO.out rfl ((Below.refl _ _).alloc (Nat.le_refl _) _)
end Go.Proofs.YtbkimmbfepjodaaDoorT
/- The program's own field of bytes: plus, doubled, times, power, inverse. -/
namespace Go.Proofs.YtbkimmbfepjodaaDoorT
set_option maxRecDepth 100000
open Go.RowKit
open W (B8)
attribute [local go_sem ↓] Go.wp_at_zero Go.wp_at_succ
attribute [local irreducible] W.gm W.xt W.gp W.gi addB mulT

abbrev u8v (A : B8) : Value := .int .u8 (A.toNat : Int)
theorem u8_xor8 (A B : B8) : bits .xor .u8 (A.toNat : Int) (B.toNat : Int) = ((A ^^^ B).toNat : Int) := u8_xor ⟨A⟩ ⟨B⟩
theorem implPlus (A B : B8) (w : World) : Calls Tw.prog 75 #[.int .u8 (A.toNat : Int), .int .u8 (B.toNat : Int)] w fun e w' => e = .returned (.int .u8 ((A ^^^ B).toNat : Int)) ∧ w' = w := by
  have hx := u8_xor8 A B
  go_enter Tw.func75, Tw.ntmps75
  go_wp2_with fail
  go_ret
  exact ⟨rfl, rfl⟩
theorem xt_lo : ∀ A : B8, A.toNat < 128 → A.toNat * 2 = (W.xt A).toNat := by unfold W.xt; decide +kernel
theorem xt_hi : ∀ A : B8, ¬ A.toNat < 128 → (BitVec.ofNat 8 (A.toNat * 2 % 256)) ^^^ 29#8 = W.xt A ∧ (BitVec.ofNat 8 (A.toNat * 2 % 256)).toNat = A.toNat * 2 % 256 := by unfold W.xt; decide +kernel
theorem implDoubled (A : B8) (w : World) : Calls Tw.prog 88 #[.int .u8 (A.toNat : Int)] w fun e w' => e = .returned (.int .u8 ((W.xt A).toNat : Int)) ∧ w' = w := by
  by_cases h : A.toNat < 128
  · have h' : (A.toNat : Int) < 128 := by omega
    have HX : Hid (((W.xt A).toNat : Int) = (A.toNat : Int) * 2) := by rw [← xt_lo A h]; push_cast; rfl
    go_enter Tw.func88, Tw.ntmps88
    go_wp2_with fail
    go_ret
    exact ⟨by rw [HX.out]; rfl, rfl⟩
  · have h' : ¬ (A.toNat : Int) < 128 := by omega
    have hx : bits .xor .u8 ((A.toNat : Int) * 2 % 256) 29 = ((W.xt A).toNat : Int) := by
      obtain ⟨e1, e2⟩ := xt_hi A h
      have := u8_xor8 (BitVec.ofNat 8 (A.toNat * 2 % 256)) 29#8
      rw [e1, e2] at this
      exact this
    go_enter Tw.func88, Tw.ntmps88
    go_wp2_with fail
    go_ret
    exact ⟨rfl, rfl⟩
theorem u8_and8 (A B : B8) : bits .and .u8 (A.toNat : Int) (B.toNat : Int) = ((A &&& B).toNat : Int) := by
  have h1 : ∀ z : B8, (BitVec.ofInt 8 (z.toNat : Int)).toNat = z.toNat := fun z => by rw [BitVec.toNat_ofInt]; have := z.isLt; omega
  have h2 := (A &&& B).isLt
  show IntKind.u8.wrap ((BitVec.ofInt 8 (A.toNat : Int) &&& BitVec.ofInt 8 (B.toNat : Int)).toNat : Nat) = _
  rw [BitVec.toNat_and, h1, h1]
  rw [BitVec.toNat_and] at h2 ⊢
  simp [IntKind.wrap, IntKind.bits, IntKind.signed]
  omega
theorem low_bit : ∀ C : B8, (((C &&& 1#8).toNat : Int) == 1) = C.getLsbD 0 := by decide +kernel
theorem bit_at (B : B8) (k : Nat) : (bits .and .u8 ((B.toNat : Int) / 2 ^ k) 1 == 1) = (B >>> k).getLsbD 0 := by
  have e : ((B >>> k).toNat : Int) = (B.toNat : Int) / 2 ^ k := by rw [BitVec.toNat_ushiftRight, Nat.shiftRight_eq_div_pow]; push_cast; rfl
  rw [← e, ← low_bit, ← u8_and8]; rfl
set_option maxHeartbeats 1000000 in
theorem implTimes (A0 B : B8) (w : World) : Calls Tw.prog 76 #[.int .u8 (A0.toNat : Int), .int .u8 (B.toNat : Int)] w fun e w' => e = .returned (.int .u8 ((W.gm A0 B).toNat : Int)) ∧ w' = w := by
  obtain ⟨P, hP⟩ : ∃ P, P = W.gm A0 B := ⟨_, rfl⟩
  rw [← hP]
  have HP : Hid (P = 0#8 ^^^ W.gm A0 (B >>> 0)) := by rw [BitVec.zero_xor, BitVec.ushiftRight_zero]; exact hP
  clear hP
  go_enter Tw.func76, Tw.ntmps76
  go_wp2_with fail
  go_loop [0, 5, 7] (fun a o i => ∃ (A O : B8) (k : Nat), a = .int .u8 (A.toNat : Int) ∧ o = .int .u8 (O.toNat : Int) ∧ i = .int .i64 k ∧ k ≤ 8 ∧ P = O ^^^ W.gm A (B >>> k)) (fun _ _ i => 8 - (intOf i).toNat)
  case atStart => exact ⟨A0, 0#8, 0, rfl, rfl, rfl, Nat.zero_le _, HP.out⟩
  case round =>
    obtain ⟨A, O, k, rfl, rfl, rfl, hk, hr⟩ := hrel
    by_cases hlt : k < 8
    · have k0 : (0 : Int) ≤ (k : Int) := by omega
      have k8 : (k : Int) < 8 := by omega
      obtain ⟨r1, r2⟩ := gm_round hr
      have hs : B >>> k >>> 1 = B >>> (k + 1) := (BitVec.shiftRight_add ..).symm
      rw [hs] at r1 r2
      have hbit := bit_at B k
      have hd := implDoubled A
      have hp := implPlus O A
      cases hb : (B >>> k).getLsbD 0 with
      | true =>
        rw [hb] at hbit
        have HR : Hid (P = (O ^^^ A) ^^^ W.gm (W.xt A) (B >>> (k + 1))) := r1 hb
        clear r1 r2 hs hr
        generalize W.xt A = A' at *
        generalize O ^^^ A = O' at *
        go_wp2_with fail
        refine (hp _).mono ?_
        rintro e w1 ⟨rfl, rfl⟩
        go_wp2_with fail
        refine (hd _).mono ?_
        rintro e w2 ⟨rfl, rfl⟩
        go_wp2_with fail
        go_round
        case rel => exact ⟨A', O', k + 1, rfl, rfl, by go_num, by omega, HR.out⟩
        case measure => simp [intOf]; omega
      | false =>
        rw [hb] at hbit
        have HR : Hid (P = O ^^^ W.gm (W.xt A) (B >>> (k + 1))) := r2 hb
        clear r1 r2 hs hr
        generalize W.xt A = A' at *
        go_wp2_with fail
        refine (hd _).mono ?_
        rintro e w2 ⟨rfl, rfl⟩
        go_wp2_with fail
        go_round
        case rel => exact ⟨A', O, k + 1, rfl, rfl, by go_num, by omega, HR.out⟩
        case measure => simp [intOf]; omega
    · have hlt' : ¬ (k : Int) < 8 := by omega
      obtain rfl : k = 8 := by omega
      have HR : Hid (P = O) := by
        have e : B >>> 8 = 0#8 := by apply BitVec.eq_of_toNat_eq; simp [BitVec.toNat_ushiftRight, Nat.shiftRight_eq_div_pow]; have := B.isLt; omega
        rw [e, W.gm_zero, BitVec.xor_zero] at hr
        exact hr
      clear hr
      go_wp2_with fail
      go_ret
      exact ⟨by rw [HR.out]; rfl, rfl⟩
set_option maxHeartbeats 1000000 in
theorem implPower (A : B8) (n : Nat) (w : World) (h : n ≤ 1000) : Calls Tw.prog 90 #[.int .u8 (A.toNat : Int), .int .i64 (n : Int)] w fun e w' => e = .returned (.int .u8 ((W.gp A n).toNat : Int)) ∧ w' = w := by
  go_enter Tw.func90, Tw.ntmps90
  go_wp2_with fail
  go_loop [5, 7] (fun o i => ∃ k : Nat, i = .int .i64 k ∧ k ≤ n ∧ o = .int .u8 ((W.gp A k).toNat : Int)) (fun _ i => n - (intOf i).toNat)
  case atStart => exact ⟨0, rfl, Nat.zero_le _, by rw [W.gp_0]; rfl⟩
  case round =>
    obtain ⟨k, rfl, hk, rfl⟩ := hrel
    by_cases hlt : k < n
    · have hlt' : (k : Int) < (n : Int) := by omega
      have hc := implTimes (W.gp A k) A
      rw [← W.gp_succ] at hc
      go_wp2_with fail
      refine (hc _).mono ?_
      rintro e w1 ⟨rfl, rfl⟩
      go_wp2_with fail
      go_round
      case rel => exact ⟨k + 1, by go_num, by omega, rfl⟩
      case measure => simp [intOf]; omega
    · have hlt' : ¬ (k : Int) < (n : Int) := by omega
      obtain rfl : k = n := by omega
      go_wp2_with fail
      go_ret
      exact ⟨rfl, rfl⟩
theorem gi_power (A : B8) : W.gi A = W.gp A 254 := by
  unfold W.gi
  by_cases h : A = 0#8
  · rw [if_pos h, h, W.gp_succ 0#8 253, W.gm_zero]
  · exact if_neg h
theorem implInverse (A : B8) (w : World) : Calls Tw.prog 84 #[.int .u8 (A.toNat : Int)] w fun e w' => e = .returned (.int .u8 ((W.gi A).toNat : Int)) ∧ w' = w := by
  have hc := fun w => implPower A 254 w (by omega)
  rw [← gi_power] at hc
  have HC : Hid _ := hc
  clear hc
  go_enter Tw.func84, Tw.ntmps84
  go_wp2_with fail
  refine (HC.out _).mono ?_
  rintro e w1 ⟨rfl, rfl⟩
  go_wp2_with fail
  go_ret
  exact ⟨rfl, rfl⟩
end Go.Proofs.YtbkimmbfepjodaaDoorT
/- Rows of rows of bytes in memory: read, written, answered, made by append. Nothing of the program is read here. -/
namespace Go.Proofs.YtbkimmbfepjodaaDoorT
set_option maxRecDepth 100000
open Go.RowKit
open W (B8)

def ucs (xs : List B8) : List Value := xs.map u8v
theorem ucs_len (xs : List B8) : (ucs xs).length = xs.length := by simp [ucs]
theorem ucs_get (xs : List B8) (j : Nat) (h : j < xs.length) : (ucs xs)[j]? = some (.int .u8 ((xs.getD j 0#8).toNat : Int)) := by simp [ucs, List.getD, h]
theorem ucs_set (xs : List B8) (j : Nat) (x : B8) : (ucs xs).set j (.int .u8 (x.toNat : Int)) = ucs (xs.set j x) := by simp [ucs, List.map_set]
theorem crow_byte {w : World} {a : Option Addr} {xs : List B8} (h : CRow w a (ucs xs)) (hp : 0 < xs.length) : ∃ b off, a = some ⟨b, off, none⟩ ∧ b < w.heap.size ∧ ∀ j, j < xs.length → w.cell? ⟨b, off + j, none⟩ = some (.int .u8 ((xs.getD j 0#8).toNat : Int)) := by
  obtain ⟨b, off, e, hb, hc⟩ := h (by rw [ucs_len]; exact hp)
  exact ⟨b, off, e, hb, fun j hj => hc j _ (ucs_get xs j hj)⟩
/-- A row of bytes that stands in a row of rows. -/
structure KS where
  loc : Option Addr
  row : List B8
  cap : Nat
instance : Inhabited KS := ⟨⟨none, [], 0⟩⟩
def ksv (s : KS) : Value := .slice s.loc s.row.length s.cap
def kvs (ss : List KS) : List Value := ss.map ksv
def kws (ss : List KS) : List (List B8) := ss.map (·.row)
theorem kvs_len (ss : List KS) : (kvs ss).length = ss.length := by simp [kvs]
theorem kws_len (ss : List KS) : (kws ss).length = ss.length := by simp [kws]
theorem kvs_get (ss : List KS) (i : Nat) (h : i < ss.length) : (kvs ss)[i]? = some (ksv ss[i]) := by simp [kvs, h]
theorem kws_get (ss : List KS) (i : Nat) (h : i < ss.length) : (kws ss)[i]'(by rw [kws_len]; exact h) = ss[i].row := by simp [kws]
theorem kws_snoc (ss : List KS) (s : KS) : kws (ss ++ [s]) = kws ss ++ [s.row] := by simp [kws]
/-- A row of rows that is read, its blocks in a range. -/
def KR (w : World) (a : Option Addr) (ss : List KS) (lo hi : Nat) : Prop := RRow w a (kvs ss) lo hi ∧ ∀ s ∈ ss, RRow w s.loc (ucs s.row) lo hi
theorem KR.below {w w' : World} {a : Option Addr} {ss : List KS} {lo hi : Nat} (h : KR w a ss lo hi) (hb : Below w.heap.size w w') : KR w' a ss lo hi := ⟨h.1.below hb, fun s hs => (h.2 s hs).below hb⟩
theorem KR.nil (w : World) (a : Option Addr) (lo hi : Nat) : KR w a [] lo hi := ⟨fun h => by simp [kvs] at h, by simp⟩
/-- What the walk wants of it: the outer row's place and cells. -/
theorem KR.at {w : World} {a : Option Addr} {ss : List KS} {lo hi : Nat} (h : KR w a ss lo hi) (hp : 0 < ss.length) : ∃ b off, a = some ⟨b, off, none⟩ ∧ b < w.heap.size ∧ ∀ i (hi : i < ss.length), w.cell? ⟨b, off + i, none⟩ = some (ksv ss[i]) := by
  obtain ⟨b, off, e, _, _, h3, h4⟩ := h.1 (by rw [kvs_len]; exact hp)
  exact ⟨b, off, e, h3, fun i hi => h4 i _ (kvs_get ss i hi)⟩
/-- A row of rows that may be written: each row in a block of its own, all in a range. -/
structure KW (w : World) (g : Nat) (ss : List KS) (lo hi : Nat) : Prop where
  out : WCells w g (kvs ss)
  glo : lo ≤ g
  ghi : g < hi
  rows : ∀ s ∈ ss, ∃ b, s.loc = some ⟨b, 0, none⟩ ∧ lo ≤ b ∧ b < hi ∧ b ≠ g ∧ WCells w b (ucs s.row) ∧ s.row.length ≤ s.cap
  apart : (ss.map KS.loc).Nodup
theorem KW.mr {w : World} {g : Nat} {ss : List KS} {lo hi : Nat} (h : KW w g ss lo hi) : KR w (some ⟨g, 0, none⟩) ss lo hi :=
  ⟨RRow.of_wcells h.out h.glo h.ghi, fun s hs => by obtain ⟨b, e, h1, h2, _, h3, _⟩ := h.rows s hs; rw [e]; exact RRow.of_wcells h3 h1 h2⟩
/-- An answer of rows of bytes: nothing, or a row of rows that may be written. -/
def KAns (w : World) (v : Value) (X : List (List B8)) (lo hi : Nat) : Prop :=
  ∃ (a : Option Addr) (cap : Nat) (ss : List KS), v = .slice a ss.length cap ∧ kws ss = X ∧ ss.length ≤ cap ∧ (ss = [] ∨ ∃ g, a = some ⟨g, 0, none⟩ ∧ KW w g ss lo hi)
/-- A value that is these rows of bytes. -/
def KSee (w : World) (v : Value) (X : List (List B8)) (lo hi : Nat) : Prop := ∃ (a : Option Addr) (cap : Nat) (ss : List KS), v = .slice a ss.length cap ∧ kws ss = X ∧ KR w a ss lo hi
theorem KAns.see {w : World} {v : Value} {X : List (List B8)} {lo hi : Nat} (h : KAns w v X lo hi) : KSee w v X lo hi := by
  obtain ⟨a, cap, ss, e, hr, _, h1⟩ := h
  refine ⟨a, cap, ss, e, hr, ?_⟩
  rcases h1 with rfl | ⟨g, rfl, hm⟩
  · exact KR.nil _ _ _ _
  · exact hm.mr
/-- What an answer of rows of bytes is: new memory alone. -/
def KPost (X : List (List B8)) (w : World) (e : Ending) (w' : World) : Prop := ∃ v, e = .returned v ∧ KAns w' v X w.heap.size w'.heap.size ∧ Below w.heap.size w w'
/-- A row of bytes is not the row of rows. -/
theorem krow_apart {w : World} {b B t n : Nat} {v : Value} {row : List B8} {ts : List KS} (h : WCells w b (ucs row)) (hr : row ≠ []) (ho : w.ownsRow B t 1 v n (kvs ts)) (hts : ts ≠ []) : v.ownBlock ≠ some b := by
  intro e
  have hc := ho.cells e
  obtain ⟨x, r, rfl⟩ := List.exists_cons_of_ne_nil hr
  obtain ⟨s, t', rfl⟩ := List.exists_cons_of_ne_nil hts
  have h1 := (h.2 0 (u8v x) rfl).1
  have h2 := hc 0 (ksv s) rfl
  have e2 : (⟨b, 0, none⟩ : Addr).add 0 = ⟨b, 0, none⟩ := by simp [Addr.add]
  rw [e2, h1] at h2
  simp [ksv] at h2
/-- Where the making of a row of rows stands. -/
structure KI (w wr : World) (v : Value) (ts : List KS) : Prop where
  own : wr.ownsRow w.heap.size 105 1 v ts.length (kvs ts)
  rows : ∀ s ∈ ts, ∃ b, s.loc = some ⟨b, 0, none⟩ ∧ w.heap.size ≤ b ∧ WCells wr b (ucs s.row) ∧ s.row.length ≤ s.cap ∧ s.row ≠ []
  apart : (ts.map KS.loc).Nodup
  bel : Below w.heap.size w wr
theorem KI.start (w : World) {wr : World} {v : Value} (ho : wr.ownsRow w.heap.size 105 1 v 0 []) (hb : Below w.heap.size w wr) : KI w wr v [] := ⟨ho, by simp, List.nodup_nil, hb⟩
theorem KI.below {w wr w' : World} {v : Value} {ts : List KS} (h : KI w wr v ts) (hb : Below wr.heap.size wr w') : KI w w' v ts :=
  ⟨h.own.kept (row := none) ⟨hb.os, hb.tape, hb.output, hb.size, fun k hk _ => hb.block k hk⟩ (Classical.em _), fun s hs => by
    obtain ⟨b, e, q1, q2, q3⟩ := h.rows s hs
    exact ⟨b, e, q1, q2.below hb q2.1, q3⟩, h.apart, h.bel.trans (hb.mono h.bel.size)⟩
/-- A block beyond is turned. -/
theorem KI.other {w wr w' : World} {v : Value} {ts : List KS} {B g : Nat} (h : KI w wr v ts) (hg : wr.grownBy w' (some g)) (hB : B ≤ g) (ho : ∀ q, v.ownBlock = some q → q < B) (hr : ∀ s ∈ ts, ∀ b, s.loc = some ⟨b, 0, none⟩ → b < B) (hw : w.heap.size ≤ B) (hs : w.heap.size ≤ wr.heap.size) : KI w w' v ts := by
  refine ⟨h.own.kept hg (.inr fun e => by have := ho g e; omega), fun s hs' => ?_, h.apart, h.bel.grown hg hs (fun k e => by cases e; omega)⟩
  obtain ⟨b, e, q1, q2, q3⟩ := h.rows s hs'
  exact ⟨b, e, q1, q2.apart hg (by have := hr s hs' b e; omega), q3⟩
theorem KI.append {w wr w1 : World} {v v' : Value} {ts : List KS} {o : Obj} {b : Nat} {row : List B8} {cap : Nat} (h : KI w wr v ts) (hb : w.heap.size ≤ b) (hrow : WCells wr b (ucs row)) (hne : row ≠ []) (hcap : row.length ≤ cap)
    (hv : ∀ q, v.ownBlock = some q → q ≠ b) (hnew : ∀ s ∈ ts, s.loc ≠ some ⟨b, 0, none⟩)
    (hown : w1.ownsRow w.heap.size 105 1 v' (ts.length + 1) (kvs ts ++ [.slice (some ⟨b, 0, none⟩) row.length cap])) (hg : (wr.alloc o).grownBy w1 v.ownBlock) : KI w w1 v' (ts ++ [KS.mk (some ⟨b, 0, none⟩) row cap]) := by
  have keep : ∀ {c : Nat} {L : List Value}, WCells wr c L → (∀ q, v.ownBlock = some q → q ≠ c) → WCells w1 c L := fun {c L} hc hq => by
    have h1 : WCells (wr.alloc o) c L := hc.below ((Below.refl wr.heap.size wr).alloc (Nat.le_refl _) o) hc.1
    refine ⟨Nat.lt_of_lt_of_le h1.1 hg.size, fun i u hu => ?_⟩
    have hbk : w1.heap[c]? = (wr.alloc o).heap[c]? := hg.block c h1.1 (fun e => hq c e.symm rfl)
    exact ⟨(World.cell?_of_block (a := ⟨c, i, none⟩) hbk).trans (h1.2 i u hu).1, (World.frozen?_of_block (a := ⟨c, i, none⟩) hbk).trans (h1.2 i u hu).2⟩
  refine ⟨?_, fun s hs => ?_, ?_, (h.bel.alloc h.bel.size o).grown hg (by have := h.bel.size; simp; omega) (fun k e => (h.own.lt k e).1)⟩
  · have e : kvs (ts ++ [KS.mk (some ⟨b, 0, none⟩) row cap]) = kvs ts ++ [.slice (some ⟨b, 0, none⟩) row.length cap] := by simp [kvs, ksv]
    rw [e, List.length_append]
    exact hown
  · rcases List.mem_append.1 hs with h1 | h1
    · obtain ⟨c, e, q1, q2, q3, q4⟩ := h.rows s h1
      refine ⟨c, e, q1, keep q2 (fun q hq => ?_), q3, q4⟩
      have := krow_apart q2 q4 h.own (List.ne_nil_of_mem h1)
      intro e2; subst e2; exact this hq
    · simp at h1
      subst h1
      exact ⟨b, rfl, hb, keep hrow hv, hcap, hne⟩
  · rw [List.map_append, List.nodup_append]
    refine ⟨h.apart, by simp, fun l hl l' hl' => ?_⟩
    obtain ⟨s, hs, rfl⟩ := List.mem_map.1 hl
    simp only [List.map_cons, List.map_nil, List.mem_singleton] at hl'
    subst hl'
    exact hnew s hs
theorem KI.fin {w wr : World} {v : Value} {ts : List KS} {X : List (List B8)} (h : KI w wr v ts) (hX : kws ts = X) : KAns wr v X w.heap.size wr.heap.size := by
  have hlt := h.own.lt
  have hown := h.own
  obtain ⟨_, ⟨rfl, h0⟩ | ⟨g, cap, cur, rfl, hB, hcur, hn, _⟩⟩ := hown
  · have : ts = [] := List.eq_nil_of_length_eq_zero h0
    subst this
    exact ⟨none, 0, [], rfl, hX, Nat.le_refl _, .inl rfl⟩
  · refine ⟨_, cap, ts, rfl, hX, hn, ?_⟩
    by_cases hts : ts = []
    · exact .inl hts
    · refine .inr ⟨g, rfl, own_wcells h.own, hB, (hlt g rfl).2, fun s hs => ?_, h.apart⟩
      obtain ⟨b, e, q1, q2, q3, q4⟩ := h.rows s hs
      refine ⟨b, e, q1, q2.1, fun eb => ?_, q2, q3⟩
      subst eb
      exact krow_apart q2 q4 h.own hts rfl
end Go.Proofs.YtbkimmbfepjodaaDoorT
