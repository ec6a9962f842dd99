/- Hosts in memory, and in the laws: sizes, copies, two that are the same, marks. -/
import Derived.Test.YtoaifodmjkhiiaaUnM
import Derived.Test.YtoaifodmjkhiiaaUnRm
import Derived.Test.YtoaifodmjkhiiaaSlG
import Derived.Test.YtoaifodmjkhiiaaGenA
import Derived.Deep.CutRange
namespace Go.Proofs.Ytoaifodmjkhiiaa
set_option maxRecDepth 100000
open Go.RowKit
attribute [local go_sem ↓] Go.wp_at_zero Go.wp_at_succ

/-- A host's value: its units in a row. -/
abbrev hov (H : HM) (a : Option Addr) (cap : Nat) : Value := .agg #[.int .i64 H.id, .bool H.up, .slice a H.us.length cap]
/-- A host whose row is its own, in a stretch. -/
def HAns (w : World) (v : Value) (H : HM) (lo hi : Nat) : Prop := ∃ a cap, v = hov H a cap ∧ FRw w a (unS H.us) lo hi ∧ H.us.length ≤ cap
def HoPost (H : HM) (w : World) (e : Ending) (w' : World) : Prop := ∃ a cap, e = .returned (hov H a cap) ∧ FRw w' a (unS H.us) w.heap.size w'.heap.size ∧ H.us.length ≤ cap ∧ Below w.heap.size w w'
theorem turned_rw {W W' : World} {lo hi : Nat} {row : Option Nat} (hg : W.grownBy W' row) (hr : ∀ g, row = some g → lo ≤ g ∧ g < hi) : Turned W W' lo hi := by
  cases row with
  | none => exact Turned.of_below ⟨hg.os, hg.tape, hg.output, hg.size, fun k hk => hg.block k hk (by simp)⟩ _ _
  | some g => exact Turned.of_grown hg (hr g rfl).1 (hr g rfl).2
theorem szHost_any (H : HM) (a : Option Addr) (cap : Nat) (left : Int) (w : World) (hr : UnRow w a H.us) (hf : UnFits H.us) (h0 : 0 ≤ left) (h1 : left ≤ 1048576) :
    Calls Try.prog 6 #[hov H a cap, .int .i64 left] w fun e w' => SzPostUn left (H.us.length + unSum H.us) w e w' := by
  have HB0 := Shut.mk (show Below w.heap.size w (w.alloc (.cells #[.int .i64 H.id, .bool H.up, .slice a H.us.length cap] 24)) from (Below.refl _ _).alloc (Nat.le_refl _) _)
  have HR := Shut.mk (hr.stays HB0.out)
  have HF := Shut.mk hf
  clear hr hf
  go_enter Try.func6, Try.ntmps6
  go_wp2_with fail
  refine (szUnitS_any a H.us cap left _ HR.out HF.out h0 h1).mono ?_
  rintro e w2 ⟨r, rfl, hr1, hr2, hb2⟩
  have HB2 := Shut.mk (HB0.out.trans (hb2.mono HB0.out.size))
  have HR2 := Shut.mk hr2
  clear hb2 hr2
  by_cases hr : r < 0
  · go_wp2_with fail
    go_ret
    exact ⟨-1, rfl, by omega, by omega, HB2.out⟩
  · go_wp2_with fail
    go_ret
    exact ⟨r, rfl, hr1, HR2.out, HB2.out⟩
theorem toHost_any (H : HM) (a : Option Addr) (cap : Nat) (w : World) (hr : UnRow w a H.us) (hl : H.us.length ≤ 1048576) :
    Calls Try.prog 8 #[hov H a cap] w fun e w' => HoPost H w e w' := by
  have HS0 := Shut.mk ((((SL.start w).new #[.int .i64 H.id, .bool H.up, .slice a H.us.length cap] 24).new #[.int .i64 0, .bool false, .slice none 0 0] 29).new #[.int .i64 H.id, .bool H.up, .slice none 0 0] 29)
  simp only [World.size_alloc] at HS0
  have HR := Shut.mk hr
  clear hr
  obtain ⟨id, up, us⟩ := H
  dsimp only at *
  obtain ⟨n, hn⟩ : ∃ n, n = us.length := ⟨_, rfl⟩
  have HN := Shut.mk hn
  show Calls Try.prog 8 #[.agg #[.int .i64 id, .bool up, .slice a us.length cap]] w fun e w' => HoPost ⟨id, up, us⟩ w e w'
  rw [← hn] at HS0 hl ⊢
  clear hn
  go_enter Try.func8, Try.ntmps8
  go_upto_region 4 with fail
  refine wp_shade (fun W => SL w W [bxS (w.heap.size + 1 + 1) [.int .i64 id, .bool up, .slice none 0 0], bxS (w.heap.size + 1) [.int .i64 0, .bool false, .slice none 0 0], bxS w.heap.size [.int .i64 id, .bool up, .slice a n cap]]) HS0.out ?_
  intro W hW
  have HW := Shut.mk hW
  have HW0 := Shut.mk hW.bel.size
  clear HS0 hW
  have x2 := (HW.out.bx 2 rfl 2 _ rfl).1
  go_upto_region 5 with (go_at_call 25; rw [HN.out]; refine (toUnitS_any a us cap W (HR.out.stays HW.out.bel) (by have := HN.out; omega)).mono ?_; rintro e w2 ⟨g, rfl, hg, hw, hb⟩; have HS := Shut.mk (HW.out.add (s := rwS (some ⟨g, 0, none⟩) (unS us) W.heap.size w2.heap.size) hb (FRw.of_wcells hw hg hw.1) (rwS.loc _ _ _ _) (Nat.le_refl _) (Nat.le_refl _)); rw [← HN.out]; have y2 := HS.out.bx 1 rfl 2 _ rfl; clear hb hw hg x2 HW; obtain ⟨y2, y2z⟩ := y2)
  have HP := Shut.mk (HS.out.put 1 rfl 2 (.slice (some ⟨g, 0, none⟩) n n) (by simp))
  simp only [List.set_cons_zero, List.set_cons_succ] at HP
  refine wp_shade (fun W' => SL w W' [rwS (some ⟨g, 0, none⟩) (unS us) W.heap.size w2.heap.size, bxS (w.heap.size + 1 + 1) [.int .i64 id, .bool up, .slice (some ⟨g, 0, none⟩) n n], bxS (w.heap.size + 1) [.int .i64 0, .bool false, .slice none 0 0], bxS w.heap.size [.int .i64 id, .bool up, .slice a n cap]] ∧ W'.heap.size = w2.heap.size) ⟨HP.out, by simp [World.setCell]⟩ ?_
  intro W3 h3
  have H3 := Shut.mk h3.1
  have HZ := Shut.mk h3.2
  have hlt : W.heap.size ≤ w2.heap.size := by have := HS.out.is _ (List.mem_cons_self ..); have h1 := this.2.2.2; have := HS.out.at 0 rfl; rcases this with ⟨e, _⟩ | ⟨q, _, h4, h5, _⟩; cases e; dsimp only at h1; omega
  have HL := Shut.mk (And.intro hlt HW0.out)
  have z0 := (H3.out.bx 1 rfl 0 _ rfl).1
  have z1 := (H3.out.bx 1 rfl 1 _ rfl).1
  have z2 := (H3.out.bx 1 rfl 2 _ rfl).1
  obtain ⟨r0, r0z⟩ := H3.out.bx 2 rfl 0 _ rfl
  obtain ⟨r1, r1z⟩ := H3.out.bx 2 rfl 1 _ rfl
  obtain ⟨r2, r2z⟩ := H3.out.bx 2 rfl 2 _ rfl
  clear h3 HS HP y2 y2z hlt HW0
  go_wp2_with fail
  have HE := Shut.mk ((((H3.out.put 2 rfl 0 (.int .i64 id) (by simp)).put 2 rfl 1 (.bool up) (by simp)).put 2 rfl 2 (.slice (some ⟨g, 0, none⟩) n n) (by simp)))
  refine bodyPost_ret (v := .agg #[.int .i64 id, .bool up, .slice (some ⟨g, 0, none⟩) n n]) (by simp [results, Try.results8, go_sem, r0, r1, r2]) rfl ⟨some ⟨g, 0, none⟩, n, by rw [HN.out], ?_, by have := HN.out; show us.length ≤ n; omega, HE.out.bel⟩
  have hq : FRw _ (some ⟨g, 0, none⟩) (unS us) W.heap.size w2.heap.size := HE.out.at 0 rfl
  rcases hq with ⟨e, _⟩ | ⟨q, e, h4, h5, h6⟩
  · cases e
  · exact .inr ⟨q, e, by have := HL.out.2; omega, by have := HZ.out; simp [World.setCell]; omega, h6⟩
theorem eqHost_same (H : HM) (a b : Option Addr) (ca cb : Nat) (w : World) (ha : UnRow w a H.us) (hb : UnRow w b H.us) (hl : H.us.length ≤ 9000000) :
    Calls Try.prog 10 #[hov H a ca, hov H b cb] w fun e w' => e = .returned (.bool true) ∧ Below w.heap.size w w' := by
  have hb0 : Below w.heap.size w ((w.alloc (.cells #[.int .i64 H.id, .bool H.up, .slice a H.us.length ca] 29)).alloc (.cells #[.int .i64 H.id, .bool H.up, .slice b H.us.length cb] 29)) := ((Below.refl _ _).alloc (Nat.le_refl _) _).alloc (by simp) _
  have HA := Shut.mk (ha.stays hb0)
  have HB := Shut.mk (hb.stays hb0)
  have HB0 := Shut.mk hb0
  have hu : (H.up != H.up) = false := by simp
  clear ha hb hb0
  go_enter Try.func10, Try.ntmps10
  go_wp2_with fail
  refine (eqUnitS_same a b H.us ca cb _ HA.out HB.out hl).mono ?_
  rintro e w2 ⟨rfl, hb2⟩
  have HB2 := Shut.mk (HB0.out.trans (hb2.mono HB0.out.size))
  clear hb2
  go_wp2_with fail
  go_ret
  exact ⟨rfl, HB2.out⟩
/-- The host whose units are marks. -/
def markH (H : HM) (k : Nat) : HM := ⟨H.id, H.up, marksU k H.us.length⟩
end Go.Proofs.Ytoaifodmjkhiiaa
