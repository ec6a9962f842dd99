/- Texts of ours, laid one behind the other: HoA, HsM, GrwA, HsA, HsB, HsL, LawUl, UoM, TvA, StrV, BoolA, UoA, BoolB. -/
import Derived.Test.YtoaifodmjkhiiaaDoorPl2
import Derived.Deep.CutRange
import Derived.BigQuiet
import Derived.Deep.RegionHeld3
import Derived.Deep.DrawnRows
/- HoA: Hosts in memory, and in the laws: sizes, copies, two that are the same, marks. -/
namespace Go.Proofs.YtoaifodmjkhiiaaDoor
set_option maxRecDepth 100000
open Go.RowKit
attribute [local go_sem ↓] Go.wp_at_zero Go.wp_at_succ

/-- A host's value: its units in a row. -/
abbrev hov (H : HM) (a : Option Addr) (cap : Nat) : Value := .agg #[.int .i64 H.id, .bool H.up, .slice a H.us.length cap]
/-- A host whose row is its own, in a stretch. -/
def HAns (w : World) (v : Value) (H : HM) (lo hi : Nat) : Prop := ∃ a cap, v = hov H a cap ∧ FRw w a (unS H.us) lo hi ∧ H.us.length ≤ cap
def HoPost (H : HM) (w : World) (e : Ending) (w' : World) : Prop := ∃ a cap, e = .returned (hov H a cap) ∧ FRw w' a (unS H.us) w.heap.size w'.heap.size ∧ H.us.length ≤ cap ∧ Below w.heap.size w w'
theorem turned_rw {W W' : World} {lo hi : Nat} {row : Option Nat} (hg : W.grownBy W' row) (hr : ∀ g, row = some g → lo ≤ g ∧ g < hi) : Turned W W' lo hi := by
  cases row with
  | none => exact Turned.of_below ⟨hg.os, hg.tape, hg.output, hg.size, fun k hk => hg.block k hk (by simp)⟩ _ _
  | some g => exact Turned.of_grown hg (hr g rfl).1 (hr g rfl).2
theorem szHost_any (H : HM) (a : Option Addr) (cap : Nat) (left : Int) (w : World) (hr : UnRow w a H.us) (hf : UnFits H.us) (h0 : 0 ≤ left) (h1 : left ≤ 1048576) :
    Calls Tryd.prog 27 #[hov H a cap, .int .i64 left] w fun e w' => SzPostUn left (H.us.length + unSum H.us) w e w' := by
  have HB0 := Shut.mk (show Below w.heap.size w (w.alloc (.cells #[.int .i64 H.id, .bool H.up, .slice a H.us.length cap] 52)) from (Below.refl _ _).alloc (Nat.le_refl _) _)
  have HR := Shut.mk (hr.stays HB0.out)
  have HF := Shut.mk hf
  clear hr hf
  go_enter Tryd.func27, Tryd.ntmps27
  go_wp2_with fail
  refine (szUnitS_any a H.us cap left _ HR.out HF.out h0 h1).mono ?_
  rintro e w2 ⟨r, rfl, hr1, hr2, hb2⟩
  have HB2 := Shut.mk (HB0.out.trans (hb2.mono HB0.out.size))
  have HR2 := Shut.mk hr2
  clear hb2 hr2
  by_cases hr : r < 0
  · go_wp2_with fail
    go_ret
    exact ⟨-1, rfl, by omega, by omega, HB2.out⟩
  · go_wp2_with fail
    go_ret
    exact ⟨r, rfl, hr1, HR2.out, HB2.out⟩
theorem toHost_any (H : HM) (a : Option Addr) (cap : Nat) (w : World) (hr : UnRow w a H.us) (hl : H.us.length ≤ 1048576) :
    Calls Tryd.prog 29 #[hov H a cap] w fun e w' => HoPost H w e w' := by
  have HS0 := Shut.mk ((((SL.start w).new #[.int .i64 H.id, .bool H.up, .slice a H.us.length cap] 52).new #[.int .i64 0, .bool false, .slice none 0 0] 46).new #[.int .i64 H.id, .bool H.up, .slice none 0 0] 46)
  simp only [World.size_alloc] at HS0
  have HR := Shut.mk hr
  clear hr
  obtain ⟨id, up, us⟩ := H
  dsimp only at *
  obtain ⟨n, hn⟩ : ∃ n, n = us.length := ⟨_, rfl⟩
  have HN := Shut.mk hn
  show Calls Tryd.prog 29 #[.agg #[.int .i64 id, .bool up, .slice a us.length cap]] w fun e w' => HoPost ⟨id, up, us⟩ w e w'
  rw [← hn] at HS0 hl ⊢
  clear hn
  go_enter Tryd.func29, Tryd.ntmps29
  go_upto_region 4 with fail
  refine wp_shade (fun W => SL w W [bxS (w.heap.size + 1 + 1) [.int .i64 id, .bool up, .slice none 0 0], bxS (w.heap.size + 1) [.int .i64 0, .bool false, .slice none 0 0], bxS w.heap.size [.int .i64 id, .bool up, .slice a n cap]]) HS0.out ?_
  intro W hW
  have HW := Shut.mk hW
  have HW0 := Shut.mk hW.bel.size
  clear HS0 hW
  have x2 := (HW.out.bx 2 rfl 2 _ rfl).1
  go_upto_region 5 with (go_at_call 41; rw [HN.out]; refine (toUnitS_any a us cap W (HR.out.stays HW.out.bel) (by have := HN.out; omega)).mono ?_; rintro e w2 ⟨g, rfl, hg, hw, hb⟩; have HS := Shut.mk (HW.out.add (s := rwS (some ⟨g, 0, none⟩) (unS us) W.heap.size w2.heap.size) hb (FRw.of_wcells hw hg hw.1) (rwS.loc _ _ _ _) (Nat.le_refl _) (Nat.le_refl _)); rw [← HN.out]; have y2 := HS.out.bx 1 rfl 2 _ rfl; clear hb hw hg x2 HW; obtain ⟨y2, y2z⟩ := y2)
  have HP := Shut.mk (HS.out.put 1 rfl 2 (.slice (some ⟨g, 0, none⟩) n n) (by simp))
  simp only [List.set_cons_zero, List.set_cons_succ] at HP
  refine wp_shade (fun W' => SL w W' [rwS (some ⟨g, 0, none⟩) (unS us) W.heap.size w2.heap.size, bxS (w.heap.size + 1 + 1) [.int .i64 id, .bool up, .slice (some ⟨g, 0, none⟩) n n], bxS (w.heap.size + 1) [.int .i64 0, .bool false, .slice none 0 0], bxS w.heap.size [.int .i64 id, .bool up, .slice a n cap]] ∧ W'.heap.size = w2.heap.size) ⟨HP.out, by simp [World.setCell]⟩ ?_
  intro W3 h3
  have H3 := Shut.mk h3.1
  have HZ := Shut.mk h3.2
  have hlt : W.heap.size ≤ w2.heap.size := by have := HS.out.is _ (List.mem_cons_self ..); have h1 := this.2.2.2; have := HS.out.at 0 rfl; rcases this with ⟨e, _⟩ | ⟨q, _, h4, h5, _⟩; cases e; dsimp only at h1; omega
  have HL := Shut.mk (And.intro hlt HW0.out)
  have z0 := (H3.out.bx 1 rfl 0 _ rfl).1
  have z1 := (H3.out.bx 1 rfl 1 _ rfl).1
  have z2 := (H3.out.bx 1 rfl 2 _ rfl).1
  obtain ⟨r0, r0z⟩ := H3.out.bx 2 rfl 0 _ rfl
  obtain ⟨r1, r1z⟩ := H3.out.bx 2 rfl 1 _ rfl
  obtain ⟨r2, r2z⟩ := H3.out.bx 2 rfl 2 _ rfl
  clear h3 HS HP y2 y2z hlt HW0
  go_wp2_with fail
  have HE := Shut.mk ((((H3.out.put 2 rfl 0 (.int .i64 id) (by simp)).put 2 rfl 1 (.bool up) (by simp)).put 2 rfl 2 (.slice (some ⟨g, 0, none⟩) n n) (by simp)))
  refine bodyPost_ret (v := .agg #[.int .i64 id, .bool up, .slice (some ⟨g, 0, none⟩) n n]) (by simp [results, Tryd.results29, go_sem, r0, r1, r2]) rfl ⟨some ⟨g, 0, none⟩, n, by rw [HN.out], ?_, by have := HN.out; show us.length ≤ n; omega, HE.out.bel⟩
  have hq : FRw _ (some ⟨g, 0, none⟩) (unS us) W.heap.size w2.heap.size := HE.out.at 0 rfl
  rcases hq with ⟨e, _⟩ | ⟨q, e, h4, h5, h6⟩
  · cases e
  · exact .inr ⟨q, e, by have := HL.out.2; omega, by have := HZ.out; simp [World.setCell]; omega, h6⟩
theorem eqHost_same (H : HM) (a b : Option Addr) (ca cb : Nat) (w : World) (ha : UnRow w a H.us) (hb : UnRow w b H.us) (hl : H.us.length ≤ 9000000) :
    Calls Tryd.prog 32 #[hov H a ca, hov H b cb] w fun e w' => e = .returned (.bool true) ∧ Below w.heap.size w w' := by
  have hb0 : Below w.heap.size w ((w.alloc (.cells #[.int .i64 H.id, .bool H.up, .slice a H.us.length ca] 46)).alloc (.cells #[.int .i64 H.id, .bool H.up, .slice b H.us.length cb] 46)) := ((Below.refl _ _).alloc (Nat.le_refl _) _).alloc (by simp) _
  have HA := Shut.mk (ha.stays hb0)
  have HB := Shut.mk (hb.stays hb0)
  have HB0 := Shut.mk hb0
  have hu : (H.up != H.up) = false := by simp
  clear ha hb hb0
  go_enter Tryd.func32, Tryd.ntmps32
  go_wp2_with fail
  refine (eqUnitS_same a b H.us ca cb _ HA.out HB.out hl).mono ?_
  rintro e w2 ⟨rfl, hb2⟩
  have HB2 := Shut.mk (HB0.out.trans (hb2.mono HB0.out.size))
  clear hb2
  go_wp2_with fail
  go_ret
  exact ⟨rfl, HB2.out⟩
/-- The host whose units are marks. -/
def markH (H : HM) (k : Nat) : HM := ⟨H.id, H.up, marksU k H.us.length⟩
end Go.Proofs.YtoaifodmjkhiiaaDoor
/- HsM: Rows of hosts in memory: one that is read, one that may be written. -/
namespace Go.Proofs.YtoaifodmjkhiiaaDoor
set_option maxRecDepth 100000
open Go.RowKit

/-- A host, and where its units lie. -/
structure HoR where
  h : HM
  loc : Option Addr
  cap : Nat
instance : Inhabited HoR := ⟨⟨default, none, 0⟩⟩
def hC (r : HoR) : List Value := [.int .i64 r.h.id, .bool r.h.up, .slice r.loc r.h.us.length r.cap]
theorem hC_len (r : HoR) : (hC r).length = 3 := rfl
def HK : NK HoR := ⟨hC, 3, hC_len, HoR.loc, fun r => unS r.h.us⟩
def hS (rs : List HoR) : List Value := HK.cells rs
theorem hS_len (rs : List HoR) : (hS rs).length = rs.length * 3 := HK.cells_len rs
def hms (rs : List HoR) : List HM := rs.map HoR.h
theorem hms_len (rs : List HoR) : (hms rs).length = rs.length := by simp [hms]
/-- A row of hosts, as it is read. -/
def HsRow (w : World) (a : Option Addr) (rs : List HoR) : Prop := CRow w a (hS rs) ∧ ∀ r ∈ rs, UnRow w r.loc r.h.us
theorem HsRow.stays {w w' : World} {a : Option Addr} {rs : List HoR} (h : HsRow w a rs) (hb : Below w.heap.size w w') : HsRow w' a rs := ⟨h.1.stays hb, fun r hr => (h.2 r hr).stays hb⟩
theorem HsRow.at {w : World} {a : Option Addr} {rs : List HoR} (h : HsRow w a rs) (hp : 0 < rs.length) : ∃ b off, a = some ⟨b, off, none⟩ ∧ b < w.heap.size ∧ ∀ k (hk : k < rs.length), w.cell? ⟨b, off + k * 3, none⟩ = some (.int .i64 rs[k].h.id) ∧ w.cell? ⟨b, off + k * 3 + 1, none⟩ = some (.bool rs[k].h.up) ∧ w.cell? ⟨b, off + k * 3 + 2, none⟩ = some (.slice rs[k].loc rs[k].h.us.length rs[k].cap) ∧ UnRow w rs[k].loc rs[k].h.us := by
  obtain ⟨b, off, e, lb, hc⟩ := h.1 (by rw [hS_len]; omega)
  refine ⟨b, off, e, lb, fun k hk => ?_⟩
  have q : ∀ i v, i < 3 → (hC rs[k])[i]? = some v → w.cell? ⟨b, off + (k * 3 + i), none⟩ = some v := fun i v hi hv => hc _ v (by
    have := HK.cells_get rs k hk i hi
    exact this.trans hv)
  have q0 := q 0 _ (by omega) rfl
  have q1 := q 1 _ (by omega) rfl
  have q2 := q 2 _ (by omega) rfl
  rw [Nat.add_zero] at q0
  rw [← Nat.add_assoc] at q1 q2
  exact ⟨q0, q1, q2, h.2 _ (List.getElem_mem hk)⟩
/-- A host of a row, in every later world. -/
theorem hs_at {w W : World} {a : Option Addr} {rs : List HoR} (hr : HsRow w a rs) (hb : Below w.heap.size w W) {k : Nat} (hk : k < rs.length) : ∃ b off r, a = some ⟨b, off, none⟩ ∧ r = rs[k] ∧ b < w.heap.size ∧ ∀ X, Below W.heap.size W X → X.cell? ⟨b, off + k * 3, none⟩ = some (.int .i64 r.h.id) ∧ X.cell? ⟨b, off + k * 3 + 1, none⟩ = some (.bool r.h.up) ∧ X.cell? ⟨b, off + k * 3 + 2, none⟩ = some (.slice r.loc r.h.us.length r.cap) ∧ UnRow X r.loc r.h.us := by
  obtain ⟨b, off, e, lb, _⟩ := hr.at (by omega)
  refine ⟨b, off, rs[k], e, rfl, lb, fun X hX => ?_⟩
  obtain ⟨b', off', e', _, hc⟩ := (hr.stays (hb.trans (hX.mono hb.size))).at (by omega)
  rw [e] at e'
  simp only [Option.some.injEq, Addr.mk.injEq, and_true] at e'
  obtain ⟨rfl, rfl⟩ := e'
  exact hc k hk
/-- A row of hosts that may be written: all in a range. -/
def HsW (w : World) (va : Option Addr) (rs : List HoR) (lo hi : Nat) : Prop := (∀ r ∈ rs, r.h.us.length ≤ r.cap) ∧ ((va = none ∧ rs = []) ∨ ∃ g, va = some ⟨g, 0, none⟩ ∧ GW HK w g rs lo hi)
theorem HsW.row {w : World} {va : Option Addr} {rs : List HoR} {lo hi : Nat} (h : HsW w va rs lo hi) : HsRow w va rs := by
  rcases h.2 with ⟨rfl, rfl⟩ | ⟨g, rfl, hg⟩
  · exact ⟨fun hp => by rw [hS_len] at hp; simp at hp, fun r hr => by cases hr⟩
  · exact ⟨hg.gr.1.crow, fun r hr => (hg.gr.2 r hr).crow⟩
theorem HsW.turned {w w' : World} {va : Option Addr} {rs : List HoR} {lo hi lo' hi' : Nat} (h : HsW w va rs lo hi) (t : Turned w w' lo' hi') (hd : hi ≤ lo' ∨ hi' ≤ lo) : HsW w' va rs lo hi :=
  ⟨h.1, h.2.imp id fun ⟨g, e, hg⟩ => ⟨g, e, hg.turned t hd⟩⟩
theorem HsW.below {w w' : World} {va : Option Addr} {rs : List HoR} {lo hi : Nat} (h : HsW w va rs lo hi) (hb : Below w.heap.size w w') : HsW w' va rs lo hi := ⟨h.1, h.2.imp id fun ⟨g, e, hg⟩ => ⟨g, e, hg.below hb⟩⟩
theorem HsW.wide {w : World} {va : Option Addr} {rs : List HoR} {lo hi lo' hi' : Nat} (h : HsW w va rs lo hi) (h1 : lo' ≤ lo) (h2 : hi ≤ hi') : HsW w va rs lo' hi' := ⟨h.1, h.2.imp id fun ⟨g, e, hg⟩ => ⟨g, e, hg.wide h1 h2⟩⟩
/-- A row of hosts as a stretch. -/
abbrev hsS (va : Option Addr) (rs : List HoR) (lo hi : Nat) : Str := ⟨fun W => HsW W va rs lo hi, lo, hi⟩
theorem hsS.loc (va : Option Addr) (rs : List HoR) (lo hi : Nat) : (hsS va rs lo hi).Loc := fun _ _ _ _ h t hd => HsW.turned h t hd
/-- The answer: hosts in rows of the call's own. -/
def HsPost (hs : List HM) (w : World) (e : Ending) (w' : World) : Prop := ∃ va cap rs, e = .returned (.slice va rs.length cap) ∧ hms rs = hs ∧ HsW w' va rs w.heap.size w'.heap.size ∧ rs.length ≤ cap ∧ Below w.heap.size w w'
/-- How much hosts hold. -/
def hsSum : List HM → Nat
  | [] => 0
  | h :: hs => (h.us.length + unSum h.us) + hsSum hs
theorem hsSum_take (hs : List HM) (k : Nat) (h : k < hs.length) : hsSum (hs.take (k + 1)) = hsSum (hs.take k) + (hs[k].us.length + unSum hs[k].us) := by
  induction hs generalizing k with
  | nil => simp at h
  | cons a hs ih =>
    cases k with
    | zero => simp [hsSum]
    | succ k =>
      have := ih k (by simpa using h)
      simp only [List.take_succ_cons, hsSum, List.getElem_cons_succ] at this ⊢
      omega
theorem hsSum_mem {hs : List HM} {h : HM} (hm : h ∈ hs) : h.us.length + unSum h.us ≤ hsSum hs := by
  induction hs with
  | nil => cases hm
  | cons a hs ih =>
    simp only [hsSum]
    rcases List.mem_cons.1 hm with rfl | hm
    · omega
    · have := ih hm; omega
def HsFits (hs : List HM) : Prop := hs.length ≤ 9223372036854775807 ∧ ∀ h ∈ hs, UnFits h.us ∧ -9223372036854775808 ≤ h.id ∧ h.id ≤ 9223372036854775807
/-- The hosts whose fields are marks. -/
def marksH (k : Nat) : List HM → List HM
  | [] => []
  | h :: hs => ⟨(k : Nat), (k + 1) % 3 == 0, marksU (k + 2) h.us.length⟩ :: marksH (k + 2 + 4 * h.us.length) hs
def endH (k : Nat) : List HM → Nat
  | [] => k
  | h :: hs => endH (k + 2 + 4 * h.us.length) hs
theorem endH_eq (k : Nat) (hs : List HM) : endH k hs = k + 2 * hs.length + 4 * (hs.map fun h => h.us.length).sum := by
  induction hs generalizing k with
  | nil => simp [endH]
  | cons h hs ih => simp only [endH, ih, List.length_cons, List.map_cons, List.sum_cons]; omega
theorem marksH_len (k : Nat) (hs : List HM) : (marksH k hs).length = hs.length := by
  induction hs generalizing k with
  | nil => rfl
  | cons h hs ih => simp [marksH, ih]
theorem endH_take (k : Nat) (hs : List HM) (j : Nat) (hj : j < hs.length) : endH k (hs.take (j + 1)) = endH k (hs.take j) + 2 + 4 * hs[j].us.length := by
  induction hs generalizing k j with
  | nil => simp at hj
  | cons h hs ih =>
    cases j with
    | zero => simp [endH]
    | succ j => simpa [endH] using ih (k + 2 + 4 * h.us.length) j (by simpa using hj)
theorem marksH_at (k : Nat) (hs : List HM) (j : Nat) (hj : j < hs.length) : (marksH k hs)[j]'(by rw [marksH_len]; exact hj) = ⟨(endH k (hs.take j) : Nat), (endH k (hs.take j) + 1) % 3 == 0, marksU (endH k (hs.take j) + 2) hs[j].us.length⟩ := by
  induction hs generalizing k j with
  | nil => simp at hj
  | cons h hs ih =>
    cases j with
    | zero => simp [marksH, endH]
    | succ j => simpa [marksH, endH] using ih (k + 2 + 4 * h.us.length) j (by simpa using hj)
/-- A host is laid anew into such a row. -/
theorem GW.host {w w2 : World} {g lo : Nat} {rs : List HoR} (h : GW HK w g rs lo w.heap.size) (hb : Below w.heap.size w w2) (j : Nat) (hj : j < rs.length) (H : HM) (a : Option Addr) (cap : Nat) (hF : FRw w2 a (unS H.us) w.heap.size w2.heap.size) (hlo : lo ≤ w.heap.size) :
    GW HK (setW w2 g (j * 3) (hC ⟨H, a, cap⟩)) g (rs.set j ⟨H, a, cap⟩) lo w2.heap.size := by
  have k := (h.below hb).wide (Nat.le_refl _) hb.size
  refine k.put j hj ⟨H, a, cap⟩ ?_ fun s hs h1 h2 e => ?_
  · rcases hF with ⟨_, e⟩ | ⟨q, e, q1, q2, q3⟩
    · exact .inl e
    · exact .inr ⟨q, e, by omega, q2, by have := h.ghi; omega, q3⟩
  · rcases h.rows s hs with q | ⟨b, e1, q1, q2, q3, q4⟩
    · exact h1 q
    · rcases hF with ⟨_, q⟩ | ⟨q, e2, p1, p2, p3⟩
      · exact h2 q
      · have : some (⟨b, 0, none⟩ : Addr) = some ⟨q, 0, none⟩ := by rw [← e1, ← e2]; exact e
        simp only [Option.some.injEq, Addr.mk.injEq, and_true] at this
        omega
theorem setW3 (w : World) (g o : Nat) (v0 v1 v2 : Value) : setW w g o [v0, v1, v2] = ((w.setCell ⟨g, o, none⟩ v0).setCell ⟨g, o + 1, none⟩ v1).setCell ⟨g, o + 2, none⟩ v2 := rfl
theorem setW_sz (w : World) (g off : Nat) (vs : List Value) : (setW w g off vs).heap.size = w.heap.size := by
  induction vs generalizing w off with
  | nil => rfl
  | cons v vs ih => show (setW _ g (off + 1) vs).heap.size = _; rw [ih]; simp [World.setCell]
end Go.Proofs.YtoaifodmjkhiiaaDoor
/- GrwA: A region that draws its order, whose operations only read and whose callees make new memory alone and answer one value wherever they are called: one walk, in the text's order. -/
namespace Go.Proofs.YtoaifodmjkhiiaaDoor
set_option maxRecDepth 100000
open Go.RowKit

/-- A world with more memory. -/
structure Grow (w : World) where
  val : World
  bel : Below w.heap.size w val
instance {w : World} : Nonempty (Grow w) := ⟨⟨w, Below.refl _ _⟩⟩
theorem wp_region_grow {P : Program} {id : Nat} {Q : Exit → Act → World → Prop} {a : Act} {w : World} {l : List Oper} (hm : P.follows .mixedOrders = true) (hB : Region.lexB .any l.toArray = true)
    (h : wpQuiet P l.toArray (fun W => ∃ X : Grow w, W = X.val) (fun a' => ∀ w', (∃ X : Grow w, w' = X.val) → Q .normal a' w') l a) : (Code.region id l.toArray true).wp P Q a w :=
  wp_region_quiet (C := fun W => ∃ X : Grow w, W = X.val) hm hB ⟨⟨w.drew, Below.drew (Below.refl _ _)⟩, rfl⟩ (by simpa using h)
theorem Grow.cell {w : World} (X : Grow w) {p : Addr} {v : Value} (h : w.cell? p = some v) (hl : p.block < w.heap.size) : X.val.cell? p = some v := (X.bel.cell hl).trans h
theorem calls_grow {P : Program} {f : FuncId} {args : Array Value} {w : World} {v : Value} (h : ∀ W, Below w.heap.size w W → Calls P f args W fun e w' => e = .returned v ∧ Below W.heap.size W w') (X : Grow w) :
    Calls P f args X.val fun e w'' => e = .returned v ∧ ∃ Y : Grow w, w'' = Y.val :=
  (h X.val X.bel).mono fun _ w'' ⟨he, hb⟩ => ⟨he, ⟨w'', X.bel.trans (hb.mono X.bel.size)⟩, rfl⟩
theorem calls_same {P : Program} {f : FuncId} {args : Array Value} {w : World} {v : Value} (h : ∀ W, Below w.heap.size w W → Calls P f args W fun e w' => e = .returned v ∧ w' = W) (X : Grow w) :
    Calls P f args X.val fun e w'' => e = .returned v ∧ ∃ Y : Grow w, w'' = Y.val :=
  (h X.val X.bel).mono fun _ _ ⟨he, hb⟩ => ⟨he, X, hb⟩
end Go.Proofs.YtoaifodmjkhiiaaDoor
/- HsA: Rows of hosts in the laws: sizes, copies, two that are the same. -/
namespace Go.Proofs.YtoaifodmjkhiiaaDoor
set_option maxRecDepth 100000
open Go.RowKit BigFrame
attribute [local go_sem ↓] Go.wp_at_zero Go.wp_at_succ

set_option maxRecDepth 100000 in
set_option maxHeartbeats 1000000 in
theorem szHostS_any (a : Option Addr) (rs : List HoR) (cap : Nat) (left : Int) (w : World) (hr : HsRow w a rs) (hf : HsFits (hms rs)) (h0 : 0 ≤ left) (h1 : left ≤ 1048576) :
    Calls Tryd.prog 6 #[.slice a rs.length cap, .int .i64 left] w fun e w' => SzPostUn left (rs.length + hsSum (hms rs)) w e w' := by
  obtain ⟨n, hn⟩ : ∃ n, n = rs.length := ⟨_, rfl⟩
  have HN := Shut.mk hn
  have hl : n ≤ 9223372036854775807 := by rw [hn, ← hms_len]; exact hf.1
  rw [← hn]
  clear hn
  by_cases c1 : left - n < 0
  · clear hr hf
    go_enter Tryd.func6, Tryd.ntmps6
    go_wp2_with fail
    go_ret
    exact ⟨-1, rfl, by omega, by omega, Below.refl _ _⟩
  · have HR := Shut.mk hr
    have HF := Shut.mk hf
    have HML : Shut ((hms rs).length = n) := ⟨by rw [hms_len, HN.out]⟩
    clear hr hf
    go_enter Tryd.func6, Tryd.ntmps6
    go_wp2_with fail
    go_loopw [1, 5] (fun v i wr => ∃ (k : Nat) (l : Int), v = .int .i64 l ∧ i = .int .i64 k ∧ k ≤ n ∧ 0 ≤ l ∧ Shut (l + n + hsSum ((hms rs).take k) = left) ∧ Shut (Below w.heap.size w wr)) (fun _ i _ => n - (intOf i).toNat)
    case atStart => exact ⟨0, left - n, rfl, rfl, Nat.zero_le _, by omega, ⟨by simp [hsSum]⟩, ⟨Below.refl _ _⟩⟩
    case round =>
      obtain ⟨k, l, rfl, rfl, hk, hl0, HS, HB⟩ := hrel
      by_cases hlt : k < n
      · have hkr : k < rs.length := by rw [← HN.out]; exact hlt
        obtain ⟨b, off, r, rfl, hre, lb, hc⟩ := hs_at HR.out HB.out hkr
        obtain ⟨d0, d1, d2, d3⟩ := hc wr (Below.refl _ _)
        have hme : (hms rs)[k]'(by rw [hms_len]; exact hkr) = r.h := by rw [hre]; simp [hms]
        have HST : Shut (hsSum ((hms rs).take (k + 1)) = hsSum ((hms rs).take k) + (r.h.us.length + unSum r.h.us)) := ⟨by have := hsSum_take (hms rs) k (by rw [hms_len]; exact hkr); rw [hme] at this; exact this⟩
        have hl1 : l ≤ 1048576 := by have := HS.out; omega
        have HSZ := Shut.mk (fun W (hW : Below wr.heap.size wr W) => szHost_any r.h r.loc r.cap l W (d3.stays hW) (HF.out.2 r.h (by rw [← hme]; exact List.getElem_mem _)).1 hl0 hl1)
        obtain ⟨H, rl, rc⟩ := r
        obtain ⟨hid, hup, hus⟩ := H
        dsimp only [hov] at *
        obtain ⟨m, hm⟩ : ∃ m, m = hus.length := ⟨_, rfl⟩
        rw [← hm] at d2 HSZ HST
        have k0 : (0 : Int) ≤ (k : Int) := by omega
        have k1 : (k : Int) < (n : Int) := by omega
        clear hc hre hme d3 hm
        go_wp2_with fail
        refine (HSZ.out _ (Below.refl _ _)).mono ?_
        rintro e w2 ⟨r, rfl, hr1, hr2, hb2⟩
        have HB2 := Shut.mk (HB.out.trans (hb2.mono HB.out.size))
        clear hb2
        by_cases hr : r < 0
        · go_wp2_with fail
          go_ret
          exact ⟨-1, rfl, by omega, by omega, HB2.out⟩
        · have HS2 : Shut (r + n + hsSum ((hms rs).take (k + 1)) = left) := ⟨by have h1 := hr2 (by omega); have h2 := HS.out; rw [HST.out]; push_cast at h1 ⊢; omega⟩
          clear hr2
          go_wp2_with fail
          go_roundw
          case rel => exact ⟨k + 1, r, rfl, by go_num, by omega, by omega, HS2, HB2⟩
          case measure => simp [intOf]; omega
      · obtain rfl : n = k := by omega
        have HE : Shut (l + (n + hsSum (hms rs) : Nat) = left) := ⟨by have h := HS.out; rw [List.take_of_length_le (by rw [HML.out]; exact Nat.le_refl _)] at h; push_cast; omega⟩
        go_wp2_with fail
        go_ret
        exact ⟨l, rfl, by omega, fun _ => HE.out, HB.out⟩
theorem infoHost : (Tryd.prog.info? 46).map (fun i => (i.zero, i.size, i.bytes)) = some (some (.agg #[.int .i64 0, .bool false, .slice none 0 0]), 3, 40) := by kernel_rfl
set_option maxRecDepth 100000 in
set_option maxHeartbeats 4000000 in
theorem toHostS_any (a : Option Addr) (rs : List HoR) (cap : Nat) (w : World) (hm : HsRow w a rs) (hl : rs.length ≤ 1048576) (hp : ∀ r ∈ rs, r.h.us.length ≤ 1048576) :
    Calls Tryd.prog 8 #[.slice a rs.length cap] w fun e w' => HsPost (hms rs) w e w' := by
  obtain ⟨i0, hi, hz0, hz1, hz2⟩ := info_parts infoHost
  have HR := Shut.mk (And.intro hm hp)
  obtain ⟨n, hn⟩ : ∃ n, n = rs.length := ⟨_, rfl⟩
  have HN := Shut.mk hn
  rw [← hn] at hl ⊢
  clear hm hp hn
  go_enter Tryd.func8, Tryd.ntmps8
  go_wp2_with (at_make; refine wpList_make_full _ rfl _ _ 28 rfl w.heap.size 46 i0 _ 3 Tryd.underlying28 hi hz0 hz1 .i64 .i64 _ _ n rfl rfl (by omega) (by omega) ?b2 ?b3 ?b4 ?_)
  case b2 => rw [hz2]; omega
  case b3 => unfold maxLen; omega
  case b4 => omega
  intro wm hownm hgrm
  have hbm : Below w.heap.size w wm := (Below.refl _ _).grown hgrm (Nat.le_refl _) (fun j hj => by simp at hj)
  have hrow : WCells wm w.heap.size (hS (List.replicate n default)) := by
    have h := own_wcells hownm
    have e : (madeCells #[.int .i64 0, .bool false, .slice none 0 0] (n * 3)).toList = hS (List.replicate n default) := made_flat hC_len (by decide) #[.int .i64 0, .bool false, .slice none 0 0] default rfl _
    rw [e] at h; exact h
  have HTW : Shut (GW HK wm w.heap.size (List.replicate n default) w.heap.size wm.heap.size ∧ ∀ r ∈ List.replicate n (default : HoR), r.h.us.length ≤ r.cap) := ⟨⟨⟨hrow, Nat.le_refl _, hrow.1, fun r hr => .inl (by rw [List.eq_of_mem_replicate hr]; rfl), List.pairwise_iff_getElem.2 (fun i j hi hj _ h1 => absurd (by simp only [List.getElem_replicate]; rfl) h1)⟩, fun r hr => by rw [List.eq_of_mem_replicate hr]; exact Nat.le_refl _⟩⟩
  have HBM := Shut.mk hbm
  clear hownm hgrm hrow hbm
  go_wp2_with fail
  go_loopw [4] (fun i wr => ∃ (k : Nat) (gs : List HoR), i = .int .i64 k ∧ k ≤ n ∧ Shut (gs.length = n ∧ hms (gs.take k) = hms (rs.take k)) ∧ Shut (GW HK wr w.heap.size gs w.heap.size wr.heap.size ∧ ∀ r ∈ gs, r.h.us.length ≤ r.cap) ∧ Shut (Below w.heap.size w wr)) (fun i _ => n - (intOf i).toNat)
  case atStart => exact ⟨0, _, rfl, by omega, ⟨by simp, by simp⟩, HTW, HBM⟩
  case round =>
    clear HTW HBM
    obtain ⟨k, gs, rfl, hk, HG, hw, hb⟩ := hrel
    by_cases hlt : k < n
    · have hlr : k < rs.length := by have := HN.out; omega
      obtain ⟨b, off, r, rfl, hre, lb, hc⟩ := hs_at HR.out.1 hb.out hlr
      obtain ⟨d0, d1, d2, d3⟩ := hc wr (Below.refl _ _)
      have HRE : Shut (r = rs[k]) := ⟨hre⟩
      have HTO := Shut.mk (fun W (hW : Below wr.heap.size wr W) => toHost_any r.h r.loc r.cap W (d3.stays hW) (by rw [hre]; exact HR.out.2 _ (List.getElem_mem hlr)))
      unfold HoPost at HTO
      obtain ⟨H, rl, rc⟩ := r
      dsimp only [hov] at *
      obtain ⟨m, hm⟩ : ∃ m, m = H.us.length := ⟨_, rfl⟩
      rw [← hm] at d2 HTO
      have HM := Shut.mk hm
      have k0 : (0 : Int) ≤ (k : Int) := by omega
      have k1 : (k : Int) < (n : Int) := by omega
      clear hc hre d3 hm
      go_wp2_with fail
      refine (HTO.out _ (Below.refl _ _)).mono ?_
      rintro e w2 ⟨a', c', rfl, hF, hc', hb2⟩
      have hgk : k < gs.length := by have := HG.out.1; omega
      have HC := Shut.mk ((hw.out.1.host hb2 k hgk H a' c' hF hb.out.size).wide (Nat.le_refl _) (Nat.le_of_eq (setW_sz w2 w.heap.size (k * 3) (hC ⟨H, a', c'⟩)).symm))
      have HWO := Shut.mk (hw.out.1.out.below hb2 hw.out.1.out.1)
      have HB3 := Shut.mk (below_setW (hb.out.trans (hb2.mono hb.out.size)) (Nat.le_refl _) (k * 3) (hC ⟨H, a', c'⟩))
      have HCP : Shut (∀ r ∈ gs.set k ⟨H, a', c'⟩, r.h.us.length ≤ r.cap) := ⟨fun r hr => by
        rcases List.mem_or_eq_of_mem_set hr with q | rfl
        · exact hw.out.2 r q
        · show H.us.length ≤ c'; have := HM.out; omega⟩
      unfold hC at HC HB3
      dsimp only at HC HB3
      rw [setW3, ← HM.out] at HC HB3
      clear hw hb hb2 hF d0 d1 d2
      obtain ⟨c0, z0⟩ := HWO.out.2 (k * 3) _ (flat_get hC_len gs k hgk 0 (by omega))
      obtain ⟨c1, z1⟩ := HWO.out.2 (k * 3 + 1) _ (flat_get hC_len gs k hgk 1 (by omega))
      obtain ⟨c2, z2⟩ := HWO.out.2 (k * 3 + 2) _ (flat_get hC_len gs k hgk 2 (by omega))
      clear HWO
      go_wp2_with fail
      go_roundw
      case rel =>
        refine ⟨k + 1, gs.set k ⟨H, a', c'⟩, by go_num, by omega, ⟨by rw [List.length_set]; exact HG.out.1, ?_⟩, ⟨HC.out, HCP.out⟩, HB3⟩
        rw [List.take_succ_eq_append_getElem (by rw [List.length_set]; exact hgk), List.take_succ_eq_append_getElem hlr, List.take_set_of_le (Nat.le_refl _)]
        have e1 := HG.out.2
        unfold hms at e1 ⊢
        rw [List.map_append, List.map_append, e1, List.getElem_set_self, ← HRE.out]
        rfl
      case measure => simp [intOf]; omega
    · have e : hms gs = hms rs := by
        have h := HG.out.2
        rw [List.take_of_length_le (by have := HG.out.1; omega), List.take_of_length_le (by have := HN.out; omega)] at h; exact h
      have HE := Shut.mk e
      have HGL := Shut.mk HG.out.1
      clear e HG
      go_wp2_with fail
      go_ret
      exact ⟨_, n, gs, by rw [HGL.out]; rfl, HE.out, ⟨hw.out.2, .inr ⟨_, rfl, hw.out.1⟩⟩, Nat.le_of_eq HGL.out, hb.out⟩
set_option maxRecDepth 100000 in
set_option maxHeartbeats 2000000 in
theorem eqHostS_same (a b : Option Addr) (ra rb : List HoR) (ca cb : Nat) (w : World) (ha : HsRow w a ra) (hb : HsRow w b rb) (he : hms ra = hms rb) (hl : ra.length ≤ 9000000) (hp : ∀ r ∈ ra, r.h.us.length ≤ 9000000) :
    Calls Tryd.prog 12 #[.slice a ra.length ca, .slice b rb.length cb] w fun e w' => e = .returned (.bool true) ∧ Below w.heap.size w w' := by
  have hlen : rb.length = ra.length := by rw [← hms_len ra, ← hms_len rb, he]
  obtain ⟨n, hn⟩ : ∃ n, n = ra.length := ⟨_, rfl⟩
  have HN := Shut.mk (And.intro hn (hlen.trans hn.symm))
  rw [hlen, ← hn]
  rw [← hn] at hl
  have HA := Shut.mk ha
  have HB := Shut.mk hb
  have HE := Shut.mk (And.intro he hp)
  clear ha hb he hp hlen hn
  go_enter Tryd.func12, Tryd.ntmps12
  go_wp2_with fail
  go_loopw [5] (fun i wr => ∃ (k : Nat), i = .int .i64 k ∧ k ≤ n ∧ Shut (Below w.heap.size w wr)) (fun i _ => n - (intOf i).toNat)
  case atStart => exact ⟨0, rfl, Nat.zero_le _, ⟨Below.refl _ _⟩⟩
  case round =>
    obtain ⟨k, rfl, hk, HW⟩ := hrel
    by_cases hlt : k < n
    · have hka : k < ra.length := by have := HN.out.1; omega
      have hkb : k < rb.length := by have := HN.out.2; omega
      obtain ⟨b1, o1, r1, rfl, hr1, l1, hc1⟩ := hs_at HA.out HW.out hka
      obtain ⟨b2, o2, r2, rfl, hr2, l2, hc2⟩ := hs_at HB.out HW.out hkb
      have hsame : r1.h = r2.h := by
        have q : (hms ra)[k]'(by rw [hms_len]; exact hka) = (hms rb)[k]'(by rw [hms_len]; exact hkb) := by simp only [HE.out.1]
        simp only [hms, List.getElem_map] at q
        rw [hr1, hr2]
        exact q
      have hpl : r1.h.us.length ≤ 9000000 := by rw [hr1]; exact HE.out.2 _ (List.getElem_mem hka)
      have HC1 := Shut.mk hc1
      have HC2 := Shut.mk hc2
      clear hr1 hr2 hc1 hc2
      obtain ⟨H, rl1, rc1⟩ := r1
      obtain ⟨H2, rl2, rc2⟩ := r2
      dsimp only at hsame hpl HC1 HC2
      subst hsame
      have HEQ := Shut.mk (fun (x : World) (hx : Below wr.heap.size wr x) => eqHost_same H rl1 rl2 rc1 rc2 x (HC1.out x hx).2.2.2 (HC2.out x hx).2.2.2 hpl)
      obtain ⟨hid, hup, hus⟩ := H
      dsimp only [hov] at *
      obtain ⟨m, hm⟩ : ∃ m, m = hus.length := ⟨_, rfl⟩
      rw [← hm] at HEQ HC1 HC2
      have k0 : (0 : Int) ≤ (k : Int) := by omega
      have k1 : (k : Int) < (n : Int) := by omega
      clear hm hpl
      have p0 : ∀ X : Grow wr, X.val.cell? ⟨b1, o1 + k * 3, none⟩ = some (.int .i64 hid) := fun X => (HC1.out X.val X.bel).1
      have p1 : ∀ X : Grow wr, X.val.cell? ⟨b1, o1 + k * 3 + 1, none⟩ = some (.bool hup) := fun X => (HC1.out X.val X.bel).2.1
      have p2 : ∀ X : Grow wr, X.val.cell? ⟨b1, o1 + k * 3 + 2, none⟩ = some (.slice rl1 m rc1) := fun X => (HC1.out X.val X.bel).2.2.1
      have q0 : ∀ X : Grow wr, X.val.cell? ⟨b2, o2 + k * 3, none⟩ = some (.int .i64 hid) := fun X => (HC2.out X.val X.bel).1
      have q1 : ∀ X : Grow wr, X.val.cell? ⟨b2, o2 + k * 3 + 1, none⟩ = some (.bool hup) := fun X => (HC2.out X.val X.bel).2.1
      have q2 : ∀ X : Grow wr, X.val.cell? ⟨b2, o2 + k * 3 + 2, none⟩ = some (.slice rl2 m rc2) := fun X => (HC2.out X.val X.bel).2.2.1
      have HKQ := Shut.mk (fun X => calls_grow (w := wr) (fun W' (hb : Below wr.heap.size wr W') => HEQ.out W' hb) X)
      have HGR : Shut (∀ X : Grow wr, Below w.heap.size w X.val) := ⟨fun X => HW.out.trans (X.bel.mono HW.out.size)⟩
      go_wp2_with fail
      refine wp_region_grow (by kernel_rfl) (by kernel_rfl) ?_
      repeat (go_big_quiet_step (first | (go_at_call 32; with_reducible exact HKQ.out _)))
      refine wpQuiet_nil ?_
      rintro _ ⟨X, rfl⟩
      clear p0 p1 p2 q0 q1 q2
      go_wp2_with fail
      go_roundw
      case rel => exact ⟨k + 1, by go_num, by omega, ⟨HGR.out X⟩⟩
      case measure => simp [intOf]; omega
    · obtain rfl : n = k := by omega
      go_wp2_with fail
      go_ret
      exact ⟨rfl, HW.out⟩
end Go.Proofs.YtoaifodmjkhiiaaDoor
/- HsB: Marks in rows of hosts. -/
namespace Go.Proofs.YtoaifodmjkhiiaaDoor
set_option maxRecDepth 100000
open Go.RowKit BigFrame
attribute [local go_sem ↓] Go.wp_at_zero Go.wp_at_succ

/-- One cell of a host of such a row is turned. -/
theorem GW.cell3 {w : World} {g lo hi : Nat} {rs : List HoR} (h : GW HK w g rs lo hi) (j : Nat) (hj : j < rs.length) (f : Nat) (hf : f < 3) (v : Value) (r : HoR) (hc : hC r = (hC rs[j]).set f v) (hl : r.loc = rs[j].loc) (hi' : r.h.us = rs[j].h.us) : GW HK (w.setCell ⟨g, j * 3 + f, none⟩ v) g (rs.set j r) lo hi := by
  have hin : ∀ s t : HoR, s.h.us = t.h.us → HK.inn s = HK.inn t := fun s t e => by show unS s.h.us = unS t.h.us; rw [e]
  refine ⟨?_, h.glo, h.ghi, fun s hs => ?_, ?_⟩
  · have q := h.out.set (j * 3 + f) v (by rw [HK.cells_len]; show j * 3 + f < rs.length * 3; omega)
    have e : (HK.cells rs).set (j * 3 + f) v = HK.cells (rs.set j r) := by
      apply List.ext_getElem?
      intro i
      by_cases hi : i < rs.length * 3
      · obtain ⟨a, b, hb, rfl⟩ : ∃ a b, b < 3 ∧ i = a * 3 + b := ⟨i / 3, i % 3, by omega, by omega⟩
        have ha : a < rs.length := by omega
        have e2 : (HK.cells (rs.set j r))[a * 3 + b]? = (hC ((rs.set j r)[a]'(by rw [List.length_set]; exact ha)))[b]? := HK.cells_get (rs.set j r) a (by rw [List.length_set]; exact ha) b hb
        have e1 : (HK.cells rs)[a * 3 + b]? = (hC rs[a])[b]? := HK.cells_get rs a ha b hb
        rw [e2, List.getElem?_set, List.getElem_set]
        by_cases hja : j = a
        · subst hja
          rw [if_pos rfl, hc, List.getElem?_set, hC_len]
          by_cases hfb : f = b
          · subst hfb
            rw [if_pos rfl, if_pos rfl, HK.cells_len, if_pos (by show j * 3 + f < rs.length * 3; omega), if_pos hf]
          · rw [if_neg (by omega), if_neg hfb, e1]
        · rw [if_neg (by omega), if_neg hja, e1]
      · have l1 : (HK.cells rs).length = rs.length * 3 := HK.cells_len rs
        have l2 : (HK.cells (rs.set j r)).length = rs.length * 3 := by rw [HK.cells_len, List.length_set]; rfl
        rw [List.getElem?_eq_none (by rw [List.length_set, l1]; omega), List.getElem?_eq_none (by rw [l2]; omega)]
    rw [e] at q
    exact q
  · rcases List.mem_or_eq_of_mem_set hs with q | rfl
    · rcases h.rows s q with e | ⟨b, e, q1, q2, q3, q4⟩
      · exact .inl e
      · exact .inr ⟨b, e, q1, q2, q3, WCells.turned q4 (Turned.of_grown (gb_set' w g (j * 3 + f) v) (Nat.le_refl _) (Nat.lt_succ_self _)) (by omega)⟩
    · rcases h.rows rs[j] (List.getElem_mem hj) with e | ⟨b, e, q1, q2, q3, q4⟩
      · exact .inl ((hin _ _ hi').trans e)
      · exact .inr ⟨b, hl.trans e, q1, q2, q3, by rw [hin _ _ hi']; exact WCells.turned q4 (Turned.of_grown (gb_set' w g (j * 3 + f) v) (Nat.le_refl _) (Nat.lt_succ_self _)) (by omega)⟩
  · refine List.pairwise_iff_getElem.2 fun a b ha hb hab h1 h2 => ?_
    rw [List.length_set] at ha hb
    have q := List.pairwise_iff_getElem.1 h.apart a b ha hb hab
    have same : ∀ c (hcl : c < rs.length), HK.inn ((rs.set j r)[c]'(by rw [List.length_set]; exact hcl)) = HK.inn rs[c] ∧ HK.loc ((rs.set j r)[c]'(by rw [List.length_set]; exact hcl)) = HK.loc rs[c] := fun c hcl => by
      rw [List.getElem_set]
      split
      · rename_i e; subst e; exact ⟨hin _ _ hi', hl⟩
      · exact ⟨rfl, rfl⟩
    rw [(same a ha).1] at h1
    rw [(same b hb).1] at h2
    rw [(same a ha).2, (same b hb).2]
    exact q h1 h2
/-- The units of a host of such a row are turned, as many as there were. -/
theorem GW.units {w w' : World} {g lo hi b : Nat} {rs : List HoR} (h : GW HK w g rs lo hi) (j : Nat) (hj : j < rs.length) (us : List UnM) (hlen : us.length = rs[j].h.us.length) (hne : 0 < us.length)
    (hb : rs[j].loc = some ⟨b, 0, none⟩) (hbg : b ≠ g) (h1 : lo ≤ b) (h2 : b < hi) (hg : w.grownBy w' (some b)) (hw : WCells w' b (unS us)) :
    GW HK w' g (rs.set j ⟨⟨rs[j].h.id, rs[j].h.up, us⟩, rs[j].loc, rs[j].cap⟩) lo hi := by
  have t : Turned w w' b (b + 1) := Turned.of_grown hg (Nat.le_refl _) (Nat.lt_succ_self _)
  have hinn : ∀ r : HoR, 0 < r.h.us.length → HK.inn r ≠ [] := fun r hr e => by
    have := congrArg List.length (show unS r.h.us = [] from e)
    rw [unS_len] at this
    simp at this
    omega
  have hsame : ∀ c (hc : c < rs.length), c ≠ j → (rs.set j (⟨⟨rs[j].h.id, rs[j].h.up, us⟩, rs[j].loc, rs[j].cap⟩ : HoR))[c]'(by rw [List.length_set]; exact hc) = rs[c] := fun c hc hcj => by rw [List.getElem_set_ne (Ne.symm hcj)]
  have hap : ∀ c (hc : c < rs.length), c ≠ j → HK.inn rs[c] ≠ [] → rs[c].loc ≠ rs[j].loc := fun c hc hcj h3 => by
    have hj0 : HK.inn rs[j] ≠ [] := hinn _ (by omega)
    rcases Nat.lt_or_gt_of_ne hcj with e | e
    · exact List.pairwise_iff_getElem.1 h.apart c j hc hj e h3 hj0
    · exact (List.pairwise_iff_getElem.1 h.apart j c hj hc e hj0 h3).symm
  refine ⟨?_, h.glo, h.ghi, fun s hs => ?_, ?_⟩
  · have e : HK.cells (rs.set j ⟨⟨rs[j].h.id, rs[j].h.up, us⟩, rs[j].loc, rs[j].cap⟩) = HK.cells rs := by
      apply List.ext_getElem?
      intro i
      by_cases hi : i < rs.length * 3
      · obtain ⟨a, c, hc, rfl⟩ : ∃ a c, c < 3 ∧ i = a * 3 + c := ⟨i / 3, i % 3, by omega, by omega⟩
        have ha : a < rs.length := by omega
        have e2 : (HK.cells (rs.set j (⟨⟨rs[j].h.id, rs[j].h.up, us⟩, rs[j].loc, rs[j].cap⟩ : HoR)))[a * 3 + c]? = (hC ((rs.set j (⟨⟨rs[j].h.id, rs[j].h.up, us⟩, rs[j].loc, rs[j].cap⟩ : HoR))[a]'(by rw [List.length_set]; exact ha)))[c]? := HK.cells_get _ a (by rw [List.length_set]; exact ha) c hc
        have e1 : (HK.cells rs)[a * 3 + c]? = (hC rs[a])[c]? := HK.cells_get rs a ha c hc
        rw [e2, e1, List.getElem_set]
        split
        · rename_i e; subst e; unfold hC; dsimp only; rw [hlen]
        · rfl
      · have l1 : (HK.cells rs).length = rs.length * 3 := HK.cells_len rs
        have l2 : (HK.cells (rs.set j (⟨⟨rs[j].h.id, rs[j].h.up, us⟩, rs[j].loc, rs[j].cap⟩ : HoR))).length = rs.length * 3 := by rw [HK.cells_len, List.length_set]; rfl
        rw [List.getElem?_eq_none (by rw [l2]; omega), List.getElem?_eq_none (by rw [l1]; omega)]
    rw [e]
    exact h.out.turned t (by omega)
  · obtain ⟨c, hc, rfl⟩ := List.getElem_of_mem hs
    have hc' : c < rs.length := by rw [List.length_set] at hc; exact hc
    by_cases hcj : c = j
    · subst hcj
      rw [List.getElem_set_self]
      exact .inr ⟨b, hb, h1, h2, hbg, hw⟩
    · rw [hsame c hc' hcj]
      rcases h.rows rs[c] (List.getElem_mem hc') with e | ⟨q, e, q1, q2, q3, q4⟩
      · exact .inl e
      · by_cases hq : HK.inn rs[c] = []
        · exact .inl hq
        · have hqb : q ≠ b := fun e2 => hap c hc' hcj hq (by
            have e3 : rs[c].loc = some ⟨q, 0, none⟩ := e
            rw [e3, hb, e2])
          exact .inr ⟨q, e, q1, q2, q3, q4.turned t (by omega)⟩
  · refine List.pairwise_iff_getElem.2 fun c d hc9 hd9 hcd h3 h4 => ?_
    have hc : c < rs.length := by rw [List.length_set] at hc9; exact hc9
    have hd : d < rs.length := by rw [List.length_set] at hd9; exact hd9
    have loc : ∀ z (hz : z < rs.length), HK.loc ((rs.set j (⟨⟨rs[j].h.id, rs[j].h.up, us⟩, rs[j].loc, rs[j].cap⟩ : HoR))[z]'(by rw [List.length_set]; exact hz)) = rs[z].loc := fun z hz => by
      rw [List.getElem_set]
      split
      · rename_i e; subst e; rfl
      · rfl
    rw [loc c hc, loc d hd]
    by_cases ec : c = j
    · subst ec
      rw [hsame d hd (by omega)] at h4
      exact (hap d hd (by omega) h4).symm
    · rw [hsame c hc ec] at h3
      by_cases ed : d = j
      · subst ed
        exact hap c hc ec h3
      · rw [hsame d hd ed] at h4
        exact List.pairwise_iff_getElem.1 h.apart c d hc hd hcd h3 h4
theorem mod3 (c : Nat) : ((c : Int).tmod 3 == 0) = (c % 3 == 0) := by
  have : (c : Int).tmod 3 = ((c % 3 : Nat) : Int) := by
    rw [Int.tmod_eq_emod_of_nonneg (by omega)]
    omega
  rw [this]
  cases h : c % 3 == 0 with
  | true => simp at h ⊢; omega
  | false => simp at h ⊢; omega
set_option maxRecDepth 100000 in
set_option maxHeartbeats 4000000 in
theorem markHostS_all (g : Nat) (rs : List HoR) (k9 ca lo hi : Nat) (w : World) (ha : GW HK w g rs lo hi) (hcp : ∀ r ∈ rs, r.h.us.length ≤ r.cap) (hk : 0 < k9) (hn : endH k9 (hms rs) ≤ 1000000000) :
    Calls Tryd.prog 13 #[.slice (some ⟨g, 0, none⟩) rs.length ca, .int .i64 k9] w fun e w' => e = .returned (.int .i64 (endH k9 (hms rs) : Nat)) ∧ ∃ ys : List HoR, ys.length = rs.length ∧ hms ys = marksH k9 (hms rs) ∧ (∀ r ∈ ys, r.h.us.length ≤ r.cap) ∧ GW HK w' g ys lo hi ∧ Turned w w' lo hi := by
  obtain ⟨n, hnn⟩ : ∃ n, n = rs.length := ⟨_, rfl⟩
  have HN := Shut.mk hnn
  obtain ⟨hs, hhs⟩ : ∃ q, q = hms rs := ⟨_, rfl⟩
  rw [← hnn, ← hhs]
  rw [← hhs] at hn
  have HHS := Shut.mk hhs
  have HA := Shut.mk ha
  have HCP := Shut.mk hcp
  have HL : Shut (hs.length = n) := ⟨by rw [hhs, hms_len, hnn]⟩
  have HEN : Shut (∀ j, endH k9 (hs.take j) ≤ endH k9 hs ∧ k9 ≤ endH k9 (hs.take j)) := ⟨fun j => by
    rw [endH_eq, endH_eq]
    have e1 : hs.length = (hs.take j).length + (hs.drop j).length := by rw [← List.length_append, List.take_append_drop]
    have e2 : (hs.map fun h => h.us.length).sum = ((hs.take j).map fun h => h.us.length).sum + ((hs.drop j).map fun h => h.us.length).sum := by rw [← List.sum_append, ← List.map_append, List.take_append_drop]
    omega⟩
  have hl : n ≤ 1000000000 := by have := endH_eq k9 hs; have := HL.out; omega
  clear ha hcp hnn hhs
  go_enter Tryd.func13, Tryd.ntmps13
  go_wp2_with fail
  go_loopw [1, 5] (fun v i wr => ∃ (j c : Nat) (ys : List HoR), i = .int .i64 j ∧ v = .int .i64 c ∧ j ≤ n ∧ Shut (c = endH k9 (hs.take j)) ∧ Shut (ys.length = n ∧ (∀ r ∈ ys, r.h.us.length ≤ r.cap) ∧ (∀ t (ht : t < n) (hy : t < ys.length) (hm : t < (marksH k9 hs).length), t < j → ys[t].h = (marksH k9 hs)[t]) ∧ (∀ t, j ≤ t → ys[t]? = rs[t]?)) ∧ Shut (GW HK wr g ys lo hi ∧ Turned w wr lo hi)) (fun _ i _ => n - (intOf i).toNat)
  case atStart => exact ⟨0, k9, rs, rfl, rfl, Nat.zero_le _, ⟨by simp [endH]⟩, ⟨HN.out.symm, HCP.out, fun t _ _ _ ht => by omega, fun t _ => rfl⟩, ⟨HA.out, Turned.refl _ _ _⟩⟩
  case round =>
    obtain ⟨j, c, ys, rfl, rfl, hj, HC, HY, HW⟩ := hrel
    by_cases hlt : j < n
    · have j0 : (0 : Int) ≤ (j : Int) := by omega
      have j1 : (j : Int) < (n : Int) := by omega
      have hjy : j < ys.length := by have := HY.out.1; omega
      have hjr : j < rs.length := by have := HN.out; omega
      have hyr : ys[j] = rs[j] := by
        have q := HY.out.2.2.2 j (Nat.le_refl _)
        rw [List.getElem?_eq_getElem hjy, List.getElem?_eq_getElem hjr] at q
        exact Option.some.inj q
      have hjs : j < hs.length := by have := HL.out; omega
      have hsj : hs[j] = ys[j].h := by rw [hyr]; simp [HHS.out, hms]
      have hcb : c + 2 + 4 * ys[j].h.us.length ≤ 1000000000 := by
        have q1 := HEN.out (j + 1)
        rw [endH_take k9 hs j hjs, ← HC.out, hsj] at q1
        omega
      have HNX : Shut (c + 2 + 4 * ys[j].h.us.length = endH k9 (hs.take (j + 1))) := ⟨by rw [endH_take k9 hs j hjs, ← HC.out, hsj]⟩
      have hc0 : 0 < c := by have := (HEN.out j).2; have := HC.out; omega
      obtain ⟨y, hy⟩ : ∃ y, y = ys[j] := ⟨_, rfl⟩
      have hw0 := HW.out.1.out
      obtain ⟨c0, z0⟩ := hw0.2 (j * 3) _ (HK.cells_get ys j hjy 0 (by decide))
      obtain ⟨c1, z1⟩ := hw0.2 (j * 3 + 1) _ (HK.cells_get ys j hjy 1 (by decide))
      obtain ⟨c2, z2⟩ := hw0.2 (j * 3 + 2) _ (HK.cells_get ys j hjy 2 (by decide))
      rw [← hy] at hcb HNX
      obtain ⟨q, hq⟩ : ∃ q, q = ((c + 1) % 3 == 0) := ⟨_, rfl⟩
      have hq2 : (((c : Int) + 1) % 3 == 0) = q := by
        rw [hq, ← mod3, Int.tmod_eq_emod_of_nonneg (by omega)]
        push_cast
        rfl
      have HG1 : Shut (GW HK (wr.setCell ⟨g, j * 3, none⟩ (.int .i64 c)) g (ys.set j ⟨⟨c, y.h.up, y.h.us⟩, y.loc, y.cap⟩) lo hi) := ⟨by
        have k := HW.out.1.cell3 j hjy 0 (by decide) (.int .i64 c) ⟨⟨c, y.h.up, y.h.us⟩, y.loc, y.cap⟩ (by rw [hy]; rfl) (by rw [hy]) (by rw [hy])
        rw [Nat.add_zero] at k
        exact k⟩
      have HG2 : Shut (GW HK ((wr.setCell ⟨g, j * 3, none⟩ (.int .i64 c)).setCell ⟨g, j * 3 + 1, none⟩ (.bool q)) g (ys.set j ⟨⟨c, q, y.h.us⟩, y.loc, y.cap⟩) lo hi) := ⟨by
        have k := HG1.out.cell3 j (by rw [List.length_set]; exact hjy) 1 (by decide) (.bool q) ⟨⟨c, q, y.h.us⟩, y.loc, y.cap⟩ (by rw [List.getElem_set_self]; rfl) (by rw [List.getElem_set_self]) (by rw [List.getElem_set_self])
        rw [List.set_set] at k
        exact k⟩
      have HT2 : Shut (Turned w ((wr.setCell ⟨g, j * 3, none⟩ (.int .i64 c)).setCell ⟨g, j * 3 + 1, none⟩ (.bool q)) lo hi) := ⟨(HW.out.2.trans (Turned.of_grown (gb_set' _ g _ _) HW.out.1.glo HW.out.1.ghi)).trans (Turned.of_grown (gb_set' _ g _ _) HW.out.1.glo HW.out.1.ghi)⟩
      have HMK : Shut (∀ m, m = y.h.us.length → (⟨(c : Nat), q, marksU (c + 2) m⟩ : HM) = (marksH k9 hs)[j]'(by rw [marksH_len]; exact hjs)) := ⟨fun m hm => by rw [marksH_at k9 hs j hjs, ← HC.out, hq, hm, hsj, ← hy]⟩
      have HCY : Shut (y.h.us.length ≤ y.cap) := ⟨by rw [hy]; exact HY.out.2.1 _ (List.getElem_mem hjy)⟩
      have HDONE : Shut (∀ (m : Nat) (r : HoR), m = y.h.us.length → r.h = ⟨(c : Nat), q, marksU (c + 2) m⟩ → r.cap = y.cap → ((ys.set j r).length = n ∧ (∀ s ∈ ys.set j r, s.h.us.length ≤ s.cap) ∧ (∀ t (ht : t < n) (h1 : t < (ys.set j r).length) (hm : t < (marksH k9 hs).length), t < j + 1 → (ys.set j r)[t].h = (marksH k9 hs)[t]) ∧ (∀ t, j + 1 ≤ t → (ys.set j r)[t]? = rs[t]?))) := ⟨fun m r hm hr hrc => ⟨by rw [List.length_set]; exact HY.out.1, fun s hs9 => by
          rcases List.mem_or_eq_of_mem_set hs9 with e | rfl
          · exact HY.out.2.1 s e
          · rw [hr, hrc]; show (marksU (c + 2) m).length ≤ y.cap; rw [marksU_len, hm]; exact HCY.out, fun t ht h1 h2 htj => by
          rw [List.length_set] at h1
          rw [List.getElem_set]
          split
          · rename_i e; subst e; rw [hr]; exact HMK.out m hm
          · exact HY.out.2.2.1 t ht h1 h2 (by omega), fun t ht => by rw [List.getElem?_set_ne (by omega)]; exact HY.out.2.2.2 t (by omega)⟩⟩
      obtain ⟨m, hm⟩ : ∃ m, m = y.h.us.length := ⟨_, rfl⟩
      have at9 : ∀ (r : HoR) (W : World), GW HK W g (ys.set j r) lo hi → ∀ f v, f < 3 → (hC r)[f]? = some v → W.cell? ⟨g, j * 3 + f, none⟩ = some v ∧ W.frozen? ⟨g, j * 3 + f, none⟩ = false := fun r W h f v hf hv => h.out.2 (j * 3 + f) v (by
        have k := HK.cells_get (ys.set j r) j (by rw [List.length_set]; exact hjy) f hf
        rw [List.getElem_set_self] at k
        exact k.trans hv)
      obtain ⟨a1, b1⟩ := at9 _ _ HG1.out 1 _ (by omega) rfl
      obtain ⟨a2, b2⟩ := at9 _ _ HG2.out 2 _ (by omega) rfl
      have HROW : Shut (y.h.us = [] ∨ ∃ b, y.loc = some ⟨b, 0, none⟩ ∧ lo ≤ b ∧ b < hi ∧ b ≠ g ∧ WCells ((wr.setCell ⟨g, j * 3, none⟩ (.int .i64 c)).setCell ⟨g, j * 3 + 1, none⟩ (.bool q)) b (unS y.h.us)) := ⟨by
        rcases HG2.out.rows ⟨⟨c, q, y.h.us⟩, y.loc, y.cap⟩ (List.mem_set hjy _) with e | h
        · left
          have e1 : unS y.h.us = [] := e
          have e3 := congrArg List.length e1
          rw [unS_len] at e3
          exact List.eq_nil_of_length_eq_zero (by simp at e3; omega)
        · exact .inr h⟩
      have HCW : Shut (((c + 2 : Nat) : Int) = (c : Int) + 1 + 1) := ⟨by omega⟩
      rw [← hm] at a2 hcb HNX
      have HM9 := Shut.mk hm
      have HSS : Shut (∀ us9, (ys.set j (⟨⟨c, q, y.h.us⟩, y.loc, y.cap⟩ : HoR)).set j ⟨⟨c, q, us9⟩, y.loc, y.cap⟩ = ys.set j ⟨⟨c, q, us9⟩, y.loc, y.cap⟩) := ⟨fun us9 => by rw [List.set_set]⟩
      have HGJ : Shut ((ys.set j (⟨⟨c, q, y.h.us⟩, y.loc, y.cap⟩ : HoR))[j]'(by rw [List.length_set]; exact hjy) = ⟨⟨c, q, y.h.us⟩, y.loc, y.cap⟩) := ⟨List.getElem_set_self _⟩
      have hlj : j < (ys.set j (⟨⟨c, q, y.h.us⟩, y.loc, y.cap⟩ : HoR)).length := by rw [List.length_set]; exact hjy
      clear hw0 c1 z1 c2 z2 at9 hq hm hyr hsj hy
      by_cases hm0 : m = 0
      · have HZ := Shut.mk (fun W => markUnitS_zero y.loc (c + 2) y.cap W)
        simp only [HCW.out] at HZ
        have HNIL : Shut (y.h.us = []) := ⟨List.eq_nil_of_length_eq_zero (by have := HM9.out; omega)⟩
        subst hm0
        go_wp2_with (go_at_call 33; refine (HZ.out _).mono ?_; rintro e w3 ⟨rfl, hw3⟩; subst hw3)
        go_roundw
        case rel => exact ⟨j + 1, c + 2, ys.set j ⟨⟨c, q, []⟩, y.loc, y.cap⟩, by go_num, congrArg (Value.int .i64) (by omega), by omega, ⟨by have := HNX.out; omega⟩, ⟨HDONE.out 0 _ HM9.out rfl rfl⟩, ⟨by have k := HG2.out; rw [HNIL.out] at k; exact k, HT2.out⟩⟩
        case measure => simp [intOf]; omega
      · obtain ⟨b, hb, hb1, hb2, hbg, hbw⟩ : ∃ b, y.loc = some ⟨b, 0, none⟩ ∧ lo ≤ b ∧ b < hi ∧ b ≠ g ∧ WCells ((wr.setCell ⟨g, j * 3, none⟩ (.int .i64 c)).setCell ⟨g, j * 3 + 1, none⟩ (.bool q)) b (unS y.h.us) := by
          rcases HROW.out with e | h
          · exact absurd (by have := HM9.out; rw [e] at this; exact this) hm0
          · exact h
        have HMU := Shut.mk (markUnitS_all b y.h.us (c + 2) y.cap _ hbw (by omega) (by have := HM9.out; omega) HCY.out)
        rw [← HM9.out, ← hb, HCW.out] at HMU
        have HBB := Shut.mk (And.intro hb (And.intro hb1 (And.intro hb2 hbg)))
        clear hbw hb hb1 hb2 hbg
        go_wp2_with (go_at_call 33; refine HMU.out.mono ?_; rintro e w3 ⟨rfl, hw3, hg3⟩; have HW3 := Shut.mk (And.intro hw3 hg3); clear hw3 hg3)
        have HG3 : Shut (GW HK w3 g (ys.set j ⟨⟨c, q, marksU (c + 2) m⟩, y.loc, y.cap⟩) lo hi ∧ Turned w w3 lo hi) := ⟨by
          have k := HG2.out.units j hlj (marksU (c + 2) m) (by rw [marksU_len, HGJ.out]; exact HM9.out) (by rw [marksU_len]; omega) (b := b) (by rw [HGJ.out]; exact HBB.out.1) HBB.out.2.2.2 HBB.out.2.1 HBB.out.2.2.1 HW3.out.2 HW3.out.1
          rw [HGJ.out] at k
          dsimp only at k
          rw [HSS.out] at k
          exact ⟨k, HT2.out.trans (Turned.of_grown HW3.out.2 HBB.out.2.1 HBB.out.2.2.1)⟩⟩
        go_roundw
        case rel => exact ⟨j + 1, c + 2 + 4 * m, ys.set j ⟨⟨c, q, marksU (c + 2) m⟩, y.loc, y.cap⟩, by go_num, rfl, by omega, HNX, ⟨HDONE.out m _ HM9.out rfl rfl⟩, HG3⟩
        case measure => simp [intOf]; omega
    · obtain rfl : n = j := by omega
      have HE : Shut (c = endH k9 hs) := ⟨by rw [HC.out, List.take_of_length_le (by rw [HL.out]; exact Nat.le_refl _)]⟩
      have HM : Shut (hms ys = marksH k9 hs) := ⟨by
        apply List.ext_getElem
        · rw [hms_len, marksH_len, HL.out, HY.out.1]
        · intro t h1 h2
          rw [hms_len] at h1
          have q := HY.out.2.2.1 t (by have := HY.out.1; omega) h1 h2 (by have := HY.out.1; omega)
          simp only [hms, List.getElem_map]
          exact q⟩
      go_wp2_with fail
      go_ret
      exact ⟨by rw [HE.out]; rfl, ys, HY.out.1, HM.out, HY.out.2.1, HW.out.1, HW.out.2⟩
end Go.Proofs.YtoaifodmjkhiiaaDoor
/- HsL: Rows of hosts in the laws: what the laws' own steps come to. -/
namespace Go.Proofs.YtoaifodmjkhiiaaDoor
set_option maxRecDepth 100000
open Go.RowKit BigFrame
attribute [local go_sem ↓] Go.wp_at_zero Go.wp_at_succ

theorem hide_hs {w W : World} {S : List Str} {a : Option Addr} {X : List HoR} {lo hi : Nat} (h : Shut (SL w W (hsS a X lo hi :: S))) : ∃ l h, Shut (SL w W (hsS a X l h :: S)) := ⟨lo, hi, h⟩
theorem markHostS_own (a : Option Addr) (rs : List HoR) (ca lo hi : Nat) (w : World) (h : HsW w a rs lo hi) (hn : endH 1 (hms rs) ≤ 1000000000) (hem : rs = [] → Calls Tryd.prog 13 #[.slice a rs.length ca, .int .i64 1] w fun e w' => e = .returned (.int .i64 1) ∧ Below w.heap.size w w') :
    Calls Tryd.prog 13 #[.slice a rs.length ca, .int .i64 1] w fun e w' => e = .returned (.int .i64 (endH 1 (hms rs) : Nat)) ∧ ∃ ys : List HoR, HsW w' a ys lo hi ∧ Turned w w' lo hi := by
  rcases h with ⟨hc, ⟨rfl, rfl⟩ | ⟨g, rfl, hg⟩⟩
  · refine (hem rfl).mono ?_
    rintro e w' ⟨rfl, hb⟩
    exact ⟨rfl, [], ⟨fun _ h => (by cases h), .inl ⟨rfl, rfl⟩⟩, Turned.of_below hb _ _⟩
  · refine (markHostS_all g rs 1 ca lo hi w hg hc (by omega) hn).mono ?_
    rintro e w' ⟨rfl, ys, hl, _, hcy, hy, ht⟩
    exact ⟨rfl, ys, ⟨hcy, .inr ⟨g, rfl, hy⟩⟩, ht⟩
theorem endH_fits {hs : List HM} (h1 : hs.length ≤ 1048576) (h2 : hsSum hs ≤ 1048576) : endH 1 hs ≤ 1000000000 := by
  have q : ∀ l : List HM, (l.map fun h => h.us.length).sum ≤ hsSum l := by
    intro l
    induction l with
    | nil => simp [hsSum]
    | cons x xs ih => simp only [List.map_cons, List.sum_cons, hsSum]; omega
  rw [endH_eq]
  have := q hs
  omega
theorem toHostS_num (a : Option Addr) (rs : List HoR) (cap n : Nat) (hn : n = rs.length) (w : World) (hm : HsRow w a rs) (hl : n ≤ 1048576) (hp : hsSum (hms rs) ≤ 1048576) :
    Calls Tryd.prog 8 #[.slice a n cap] w fun e w' => ∃ va ca rs', e = .returned (.slice va n ca) ∧ n = rs'.length ∧ hms rs' = hms rs ∧ HsW w' va rs' w.heap.size w'.heap.size ∧ Below w.heap.size w w' := by
  subst hn
  refine (toHostS_any a rs cap w hm hl (fun r hr => ?_)).mono ?_
  · have := hsSum_mem (hs := hms rs) (h := r.h) (List.mem_map_of_mem hr)
    omega
  · rintro e w' ⟨va, ca, rs', rfl, e1, hW, _, hb⟩
    have el : rs'.length = rs.length := by rw [← hms_len, e1, hms_len]
    exact ⟨va, ca, rs', by rw [el], el.symm, e1, hW, hb⟩
set_option maxRecDepth 100000 in
theorem markHostS_nil (ca : Nat) (a : Option Addr) (w : World) : Calls Tryd.prog 13 #[.slice a 0 ca, .int .i64 1] w fun e w' => e = .returned (.int .i64 1) ∧ Below w.heap.size w w' := by
  go_enter Tryd.func13, Tryd.ntmps13
  go_wp2_with fail
  go_loopw [1, 5] (fun v i wr => v = .int .i64 1 ∧ i = .int .i64 0 ∧ Shut (Below w.heap.size w wr)) (fun _ _ _ => 0)
  case atStart => exact ⟨rfl, rfl, ⟨Below.refl _ _⟩⟩
  case round =>
    obtain ⟨rfl, rfl, HW⟩ := hrel
    go_wp2_with fail
    go_ret
    exact ⟨rfl, HW.out⟩
end Go.Proofs.YtoaifodmjkhiiaaDoor
/- LawUl: The exact law of LeftOf, over what is told of the program's (written by gen/mklawuo.py). -/
namespace Go.Proofs.YtoaifodmjkhiiaaDoor
set_option maxRecDepth 100000
open Go.RowKit BigFrame
attribute [local go_sem ↓] Go.wp_at_zero Go.wp_at_succ
set_option maxRecDepth 100000 in
set_option maxHeartbeats 8000000 in
theorem lawLeftOf (rs : List HoR) (a : Option Addr) (cap : Nat) (s g : Int) (R : Nat) (w : World) (hr : HsRow w a rs) (hf : HsFits (hms rs))
    (hsp : rs.length ≤ 1048576 → hsSum (hms rs) ≤ 1048576 → ∀ (W : World) (b : Option Addr) (rs' : List HoR) (c : Nat), HsRow W b rs' → hms rs' = hms rs → Calls Tryd.prog 18 #[.slice b rs'.length c, .int .i64 s, .int .i64 g] W fun e w' => e = .returned (.int .i64 (R : Nat)) ∧ Below W.heap.size W w')
    (him : rs.length ≤ 1048576 → hsSum (hms rs) ≤ 1048576 → ∀ (W : World) (b : Option Addr) (rs' : List HoR) (c : Nat), HsRow W b rs' → hms rs' = hms rs → Below w.heap.size w W → Calls Tryd.prog 19 #[.slice b rs'.length c, .int .i64 s, .int .i64 g] W fun e w' => e = .returned (.int .i64 (R : Nat)) ∧ Below W.heap.size W w') :
    Calls Tryd.prog 4 #[.slice a rs.length cap, .int .i64 s, .int .i64 g] w fun e w' => e = .returned (.bool true) ∧ Below w.heap.size w w' := by
  have HSZ := Shut.mk (szHostS_any a rs cap 1048576 w hr hf (by omega) (by omega))
  have HR := Shut.mk hr
  have hsl : rs.length = (hms rs).length := (hms_len rs).symm
  obtain ⟨hs, hhs⟩ : ∃ q, q = hms rs := ⟨_, rfl⟩
  obtain ⟨n, hn⟩ : ∃ n, n = rs.length := ⟨_, rfl⟩
  have HTO : Shut (n ≤ 1048576 → hsSum hs ≤ 1048576 → ∀ W, Below w.heap.size w W → Calls Tryd.prog 8 #[.slice a n cap] W fun e w' => ∃ va ca rs', e = .returned (.slice va n ca) ∧ n = rs'.length ∧ hms rs' = hs ∧ HsW w' va rs' W.heap.size w'.heap.size ∧ Below W.heap.size W w') := ⟨fun h1 h2 W hb => by
    rw [hhs] at h2 ⊢
    exact toHostS_num a rs cap n hn W (HR.out.stays hb) h1 h2⟩
  have HSP : Shut (n ≤ 1048576 → hsSum hs ≤ 1048576 → ∀ (W : World) (b : Option Addr) (rs' : List HoR) (c : Nat), HsRow W b rs' → n = rs'.length → hms rs' = hs → Calls Tryd.prog 18 #[.slice b n c, .int .i64 s, .int .i64 g] W fun e w' => e = .returned (.int .i64 (R : Nat)) ∧ Below W.heap.size W w') := ⟨fun h1 h2 W b rs' c hr' hn' he => by
    rw [hn']
    exact hsp (by omega) (by rw [← hhs]; exact h2) W b rs' c hr' (by rw [he, hhs])⟩
  have HIM : Shut (n ≤ 1048576 → hsSum hs ≤ 1048576 → ∀ (W : World) (b : Option Addr) (rs' : List HoR) (c : Nat), HsRow W b rs' → n = rs'.length → hms rs' = hs → Below w.heap.size w W → Calls Tryd.prog 19 #[.slice b n c, .int .i64 s, .int .i64 g] W fun e w' => e = .returned (.int .i64 (R : Nat)) ∧ Below W.heap.size W w') := ⟨fun h1 h2 W b rs' c hr' hn' he hb => by
    rw [hn']
    exact him (by omega) (by rw [← hhs]; exact h2) W b rs' c hr' (by rw [he, hhs]) hb⟩
  have HEQ : Shut (n ≤ 1048576 → hsSum hs ≤ 1048576 → ∀ (W : World) (b c : Option Addr) (r1 r2 : List HoR) (cb cc : Nat), HsRow W b r1 → n = r1.length → hms r1 = hs → HsRow W c r2 → n = r2.length → hms r2 = hs → Calls Tryd.prog 12 #[.slice b n cb, .slice c n cc] W fun e w' => e = .returned (.bool true) ∧ Below W.heap.size W w') := ⟨fun h1 h2 W b c r1 r2 cb cc q1 l1 e1 q2 l2 e2 => by
    have q := eqHostS_same b c r1 r2 cb cc W q1 q2 (e1.trans e2.symm) (by omega) (fun r hr' => by
      have := hsSum_mem (hs := hms r1) (h := r.h) (List.mem_map_of_mem hr')
      rw [e1] at this
      omega)
    rw [← l1, ← l2] at q
    exact q⟩
  have hdd : ((R : Int) != (R : Int)) = false := by simp
  rw [← hhs, ← hn] at HSZ
  rw [← hn]
  clear hr hf hsp him hsl hhs hn HR
  go_enter Tryd.func4, Tryd.ntmps4
  go_wp2_with fail
  refine HSZ.out.mono ?_
  rintro e w1 ⟨r, rfl, r0, r1, hb⟩
  have H := Shut.mk ((SL.start w).below hb)
  clear hb
  by_cases hq : r < 0
  · clear r1
    go_wp2_with fail
    go_ret
    exact ⟨rfl, H.out.bel⟩
  have hr1 := r1 (by omega)
  have hnl : n ≤ 1048576 := by omega
  replace HTO := Shut.mk (HTO.out (by omega) (by omega))
  replace HSP := Shut.mk (HSP.out (by omega) (by omega))
  replace HIM := Shut.mk (HIM.out (by omega) (by omega))
  replace HEQ := Shut.mk (HEQ.out (by omega) (by omega))
  clear r1 hr1 r0 HSZ
  go_wp2_with fail
  refine (HTO.out _ H.out.bel).mono ?_
  rintro e w2 ⟨gw2, cw2, rsw2, rfl, hlw2, hew2, hw, hb⟩
  replace H := Shut.mk (H.out.below hb)
  have HW := Shut.mk (And.intro hw.row (And.intro hlw2 hew2))
  clear hb hw hlw2 hew2
  go_wp2_with fail
  refine (HSP.out _ _ _ _ HW.out.1 HW.out.2.1 HW.out.2.2).mono ?_
  rintro e w3 ⟨rfl, hb⟩
  replace H := Shut.mk (H.out.below hb)
  clear hb HW
  go_wp2_with fail
  refine (HTO.out _ H.out.bel).mono ?_
  rintro e w5 ⟨g5, c5, rs5, rfl, hl5, he5, hw, hb⟩
  replace H := Shut.mk (H.out.add (s := hsS g5 rs5 _ w5.heap.size) hb hw (hsS.loc _ _ _ _) (Nat.le_refl _) (Nat.le_refl _))
  obtain ⟨l5, h5, H⟩ := hide_hs H
  have H5 := Shut.mk (And.intro hl5 he5)
  clear hb hw hl5 he5
  go_wp2_with fail
  refine (HIM.out _ _ _ _ (show HsW _ _ _ _ _ from H.out.at 0 rfl).row H5.out.1 H5.out.2 H.out.bel).mono ?_
  rintro e w7 ⟨rfl, hb⟩
  replace H := Shut.mk (H.out.below hb)
  clear hb
  go_wp2_with fail
  refine (HTO.out _ H.out.bel).mono ?_
  rintro e w9 ⟨gw9, cw9, rsw9, rfl, hlw9, hew9, hw, hb⟩
  replace H := Shut.mk (H.out.below hb)
  have HW := Shut.mk (And.intro hw.row (And.intro hlw9 hew9))
  clear hb hw hlw9 hew9
  go_wp2_with fail
  refine (HEQ.out _ _ _ _ _ _ _ (show HsW _ _ _ _ _ from H.out.at 0 rfl).row H5.out.1 H5.out.2 HW.out.1 HW.out.2.1 HW.out.2.2).mono ?_
  rintro e w10 ⟨rfl, hb⟩
  replace H := Shut.mk (H.out.below hb)
  clear hb HW
  go_wp2_with fail
  go_ret
  exact ⟨rfl, H.out.bel⟩
end Go.Proofs.YtoaifodmjkhiiaaDoor
/- UoM: The units of a group, plain: of each index the first host's that has it. -/
namespace Go.Proofs.YtoaifodmjkhiiaaDoor
set_option maxRecDepth 100000
open Go.RowKit

def firstU (hs : List HM) (g i : Int) : ByteArray × Bool :=
  match hs with
  | [] => (⟨#[]⟩, false)
  | h :: hs => if (getX h g i).2 = true then getX h g i else firstU hs g i
theorem getX_none {h : HM} {g i : Int} (e : (getX h g i).2 = false) : getX h g i = (⟨#[]⟩, false) := by
  unfold getX at e ⊢
  split
  · rename_i c; rw [if_pos c] at e; cases e
  · rfl
theorem firstU_none {hs : List HM} {g i : Int} (e : (firstU hs g i).2 = false) : firstU hs g i = (⟨#[]⟩, false) := by
  induction hs with
  | nil => rfl
  | cons h hs ih =>
    unfold firstU at e ⊢
    split
    · rename_i c; rw [if_pos c, c] at e; cases e
    · rename_i c; rw [if_neg c] at e; exact ih e
theorem firstU_append (hs ks : List HM) (g i : Int) : firstU (hs ++ ks) g i = if (firstU hs g i).2 = true then firstU hs g i else firstU ks g i := by
  induction hs with
  | nil => simp [firstU]
  | cons h hs ih =>
    rw [List.cons_append, firstU, firstU]
    split
    · rename_i c; first | rfl | rw [if_pos c]
    · exact ih
theorem firstU_one (h : HM) (g i : Int) : firstU [h] g i = getX h g i := by
  unfold firstU
  split
  · rfl
  · rename_i c; rw [getX_none (by simpa using c)]; rfl
/-- One host more is asked. -/
theorem firstU_take {hs : List HM} {k : Nat} (hk : k < hs.length) (g i : Int) (e : (firstU (hs.take k) g i).2 = false) : firstU (hs.take (k + 1)) g i = getX hs[k] g i := by
  rw [List.take_succ_eq_append_getElem hk, firstU_append, e, if_neg (by simp), firstU_one]
theorem firstU_stop {hs : List HM} {k : Nat} (g i : Int) (e : (firstU (hs.take k) g i).2 = true) : firstU hs g i = firstU (hs.take k) g i := by
  conv => lhs; rw [← List.take_append_drop k hs]
  rw [firstU_append, if_pos e]
theorem firstU_mem {hs : List HM} {g i : Int} (e : (firstU hs g i).2 = true) : ∃ h ∈ hs, firstU hs g i = getX h g i ∧ (getX h g i).2 = true := by
  induction hs with
  | nil => simp [firstU] at e
  | cons h hs ih =>
    unfold firstU at e ⊢
    split
    · rename_i c; exact ⟨h, List.mem_cons_self .., rfl, c⟩
    · rename_i c
      rw [if_neg c] at e
      obtain ⟨k, hk, e1, e2⟩ := ih e
      exact ⟨k, List.mem_cons_of_mem _ hk, e1, e2⟩
/-- So many units and sums. -/
def schN (s : Int) : Nat := schK s + schM s
theorem schN_le (s : Int) : schN s ≤ 6 := by unfold schN schK schM; split <;> (try split) <;> (try split) <;> omega
def unitsL (hs : List HM) (g : Int) (n : Nat) : List (ByteArray × Bool) := (List.range n).map fun (i : Nat) => firstU hs g (i : Int)
theorem unitsL_len (hs : List HM) (g : Int) (n : Nat) : (unitsL hs g n).length = n := by simp [unitsL]
theorem unitsL_step (hs : List HM) (g : Int) (n : Nat) : unitsL hs g (n + 1) = unitsL hs g n ++ [firstU hs g (n : Int)] := by simp [unitsL, List.range_succ]
def unitsT (hs : List HM) (s g : Int) : List ByteArray := (unitsL hs g (schN s)).map Prod.fst
def unitsB (hs : List HM) (s g : Int) : List Bool := (unitsL hs g (schN s)).map Prod.snd
theorem unitsT_len (hs : List HM) (s g : Int) : (unitsT hs s g).length = schN s := by simp [unitsT, unitsL_len]
theorem unitsB_len (hs : List HM) (s g : Int) : (unitsB hs s g).length = schN s := by simp [unitsB, unitsL_len]
def leftX (hs : List HM) (s g : Int) : Nat := (unitsB hs s g).count true
theorem count_step (L : List Bool) (k : Nat) (hk : k < L.length) : (L.take (k + 1)).count true = (L.take k).count true + if L.getD k false = true then 1 else 0 := by
  rw [List.take_succ_eq_append_getElem hk, List.count_append]
  congr 1
  have e : L.getD k false = L[k] := by simp [List.getD, hk]
  rw [e]
  cases L[k] <;> rfl
theorem firstU_size {hs : List HM} {g i : Int} {B : Nat} (h : ∀ x ∈ hs, unSum x.us ≤ B) : (firstU hs g i).1.size ≤ B := by
  cases e : (firstU hs g i).2 with
  | false => rw [firstU_none e]; exact Nat.zero_le _
  | true =>
    obtain ⟨x, hx, e1, e2⟩ := firstU_mem e
    rw [e1]
    have q := h x hx
    unfold getX at e2 ⊢
    split
    · rename_i c
      simp only [Bool.and_eq_true, decide_eq_true_eq] at c
      have l := c.1.2
      refine Nat.le_trans ?_ q
      exact unSum_mem (by simp [List.getD, l])
    · rename_i c; rw [if_neg c] at e2; cases e2
end Go.Proofs.YtoaifodmjkhiiaaDoor
/- TvA: Rows of texts that a call has made. -/
namespace Go.Proofs.YtoaifodmjkhiiaaDoor
set_option maxRecDepth 100000
open Go.RowKit

/-- Texts as the cells of a row. -/
def tv (l : List ByteArray) : List Value := l.map Value.string
theorem tv_snoc (l : List ByteArray) (x : ByteArray) : tv l ++ [.string x] = tv (l ++ [x]) := by simp [tv]
theorem tv_len (l : List ByteArray) : (tv l).length = l.length := by simp [tv]
theorem Tryd.info9 : (Tryd.prog.info? 9).map (fun i => (i.zero, i.size, i.bytes)) = some (some (.string ⟨#[]⟩), 1, 16) := by kernel_rfl

/-- A row of texts that a call has made: nothing of it is older than B. -/
def RowAt (w : World) (B : Nat) (a : Option Addr) (xs : List ByteArray) (cap : Nat) : Prop := xs.length ≤ cap ∧ (xs = [] ∨ ∃ g, a = some ⟨g, 0, none⟩ ∧ B ≤ g ∧ WRow w g xs)
theorem own_rowAt {w : World} {B : Nat} {v : Value} {xs : List ByteArray} (h : w.ownsRow B 9 1 v xs.length (tv xs)) : ∃ a cap, v = .slice a xs.length cap ∧ RowAt w B a xs cap := by
  have hc : ∀ g, v.ownBlock = some g → ∀ j u, (tv xs)[j]? = some u → w.cell? ((⟨g, 0, none⟩ : Addr).add j) = some u := fun g hg => h.cells hg
  have hlt := h.lt
  obtain ⟨_, ⟨rfl, h0⟩ | ⟨g, cap, cur, rfl, hB, hcur, hn, _, hsz, _⟩⟩ := h
  · have : xs = [] := List.eq_nil_of_length_eq_zero h0
    subst this
    exact ⟨none, 0, rfl, by simp, .inl rfl⟩
  · refine ⟨_, cap, rfl, hn, .inr ⟨g, rfl, hB, (hlt g rfl).2, fun j hj => ⟨?_, ?_⟩⟩⟩
    · have := hc g rfl j _ (show (tv xs)[j]? = some _ by simp [tv, hj]; rfl)
      have e : (⟨g, 0, none⟩ : Addr).add j = ⟨g, j, none⟩ := by
        cases j <;> simp [Addr.add]
      rw [e] at this
      simpa [List.getD, hj] using this
    · unfold World.frozen?
      rw [hcur]; simp
end Go.Proofs.YtoaifodmjkhiiaaDoor
/- StrV: Rows of texts as values: what is seen of one, what an answer is, what is marked, and the laws' own functions over them. -/
namespace Go.Proofs.YtoaifodmjkhiiaaDoor
set_option maxRecDepth 100000
open Go.RowKit
attribute [local go_sem ↓] Go.wp_at_zero Go.wp_at_succ

theorem tv_get (L : List ByteArray) (j : Nat) (h : j < L.length) : (tv L)[j]? = some (.string (L.getD j ⟨#[]⟩)) := by simp [tv, List.getD, h]
theorem tv_set (L : List ByteArray) (j : Nat) (x : ByteArray) : (tv L).set j (.string x) = tv (L.set j x) := by simp [tv, List.map_set]
theorem wrow_cells {w : World} {g : Nat} {L : List ByteArray} : WRow w g L ↔ WCells w g (tv L) := by
  constructor
  · intro h
    refine ⟨h.1, fun i v hv => ?_⟩
    have hi : i < L.length := by have := (List.getElem?_eq_some_iff.1 hv).1; rw [tv_len] at this; exact this
    rw [tv_get L i hi] at hv
    cases hv
    exact h.2 i hi
  · intro h
    exact ⟨h.1, fun j hj => h.2 j _ (tv_get L j hj)⟩
/-- How many bytes there are. -/
def tsum : List ByteArray → Nat
  | [] => 0
  | x :: L => x.size + tsum L
theorem tsum_mem {L : List ByteArray} {x : ByteArray} (h : x ∈ L) : x.size ≤ tsum L := by
  induction L with
  | nil => simp at h
  | cons t L ih =>
    rcases List.mem_cons.1 h with rfl | h
    · simp only [tsum]; omega
    · have := ih h; simp only [tsum]; omega
theorem tsum_append (L M : List ByteArray) : tsum (L ++ M) = tsum L + tsum M := by
  induction L with
  | nil => simp [tsum]
  | cons t L ih => simp only [List.cons_append, tsum]; omega
theorem tsum_take (L : List ByteArray) (k : Nat) (h : k < L.length) : tsum (L.take (k + 1)) = tsum (L.take k) + (L.getD k ⟨#[]⟩).size := by
  rw [List.take_succ_eq_append_getElem h, tsum_append]
  have e : L.getD k ⟨#[]⟩ = L[k] := by simp [List.getD, h]
  rw [e]; simp [tsum]
theorem tsum_le (L : List ByteArray) (k : Nat) : tsum (L.take k) ≤ tsum L := by
  have := tsum_append (L.take k) (L.drop k)
  rw [List.take_append_drop] at this
  omega
/-- Texts that a machine can hold. -/
def TFit (L : List ByteArray) : Prop := L.length + tsum L ≤ 1048576
/-- A value that is these texts. -/
def SSee (w : World) (v : Value) (L : List ByteArray) (lo hi : Nat) : Prop := ∃ (a : Option Addr) (cap : Nat), v = .slice a L.length cap ∧ RRow w a (tv L) lo hi
/-- An answer of texts: nothing, or a row that may be written. -/
def SAns (w : World) (v : Value) (L : List ByteArray) (lo hi : Nat) : Prop := ∃ (a : Option Addr) (cap : Nat), v = .slice a L.length cap ∧ L.length ≤ cap ∧ (L = [] ∨ ∃ g, a = some ⟨g, 0, none⟩ ∧ lo ≤ g ∧ g < hi ∧ WCells w g (tv L))
theorem SAns.see {w : World} {v : Value} {L : List ByteArray} {lo hi : Nat} (h : SAns w v L lo hi) : SSee w v L lo hi := by
  obtain ⟨a, cap, e, _, h1⟩ := h
  refine ⟨a, cap, e, ?_⟩
  rcases h1 with rfl | ⟨g, rfl, q1, q2, hm⟩
  · intro h; simp [tv] at h
  · exact RRow.of_wcells hm q1 q2
theorem SSee.turned {w w' : World} {v : Value} {L : List ByteArray} {lo hi lo' hi' : Nat} (h : SSee w v L lo hi) (t : Turned w w' lo' hi') (hd : hi ≤ lo' ∨ hi' ≤ lo) : SSee w' v L lo hi := by
  obtain ⟨a, cap, e, h1⟩ := h
  exact ⟨a, cap, e, h1.turned t hd⟩
theorem SSee.below {w w' : World} {v : Value} {L : List ByteArray} {lo hi : Nat} (h : SSee w v L lo hi) (hb : Below w.heap.size w w') : SSee w' v L lo hi := by
  obtain ⟨a, cap, e, h1⟩ := h
  exact ⟨a, cap, e, h1.below hb⟩
theorem SAns.turned {w w' : World} {v : Value} {L : List ByteArray} {lo hi lo' hi' : Nat} (h : SAns w v L lo hi) (t : Turned w w' lo' hi') (hd : hi ≤ lo' ∨ hi' ≤ lo) : SAns w' v L lo hi := by
  obtain ⟨a, cap, e, hc, h1⟩ := h
  refine ⟨a, cap, e, hc, ?_⟩
  rcases h1 with rfl | ⟨g, rfl, q1, q2, hm⟩
  · exact .inl rfl
  · exact .inr ⟨g, rfl, q1, q2, hm.turned t (by omega)⟩
theorem SAns.below {w w' : World} {v : Value} {L : List ByteArray} {lo hi : Nat} (h : SAns w v L lo hi) (hb : Below w.heap.size w w') : SAns w' v L lo hi := by
  obtain ⟨a, cap, e, hc, h1⟩ := h
  refine ⟨a, cap, e, hc, ?_⟩
  rcases h1 with rfl | ⟨g, rfl, q1, q2, hm⟩
  · exact .inl rfl
  · exact .inr ⟨g, rfl, q1, q2, hm.grow hb⟩
theorem SAns.empty (w : World) (a : Option Addr) (cap lo hi : Nat) : SAns w (.slice a 0 cap) [] lo hi := ⟨a, cap, rfl, Nat.zero_le _, .inl rfl⟩
theorem SAns.srow {w : World} {v : Value} {L : List ByteArray} {lo hi : Nat} (h : SAns w v L lo hi) : ∃ a cap, v = .slice a L.length cap ∧ SRow w a L := by
  obtain ⟨a, cap, e, _, h1⟩ := h
  refine ⟨a, cap, e, ?_⟩
  rcases h1 with rfl | ⟨g, rfl, _, _, hm⟩
  · intro h; simp at h
  · exact (wrow_cells.2 hm).srow
/-- What an answer of texts is: new memory alone. -/
def SPost (L : List ByteArray) (w : World) (e : Ending) (w' : World) : Prop := ∃ v, e = .returned v ∧ SAns w' v L w.heap.size w'.heap.size ∧ Below w.heap.size w w'
theorem own_sans {w w' : World} {v : Value} {L : List ByteArray} {n : Nat} (hn : L.length = n) (h : w'.ownsRow w.heap.size 9 1 v n (tv L)) : SAns w' v L w.heap.size w'.heap.size := by
  have h' := h
  rw [← hn] at h'
  obtain ⟨a, cap, rfl, hc, h1⟩ := own_rowAt h'
  refine ⟨a, cap, rfl, hc, ?_⟩
  rcases h1 with rfl | ⟨g, rfl, q1, hm⟩
  · exact .inl rfl
  · exact .inr ⟨g, rfl, q1, hm.1, wrow_cells.1 hm⟩
theorem infoTextG : (Tryd.prog.info? 9).map (fun i => (i.zero, i.size, i.bytes)) = some (some (.string ⟨#[]⟩), 1, 16) := by kernel_rfl
theorem eqStringS_val {w : World} {v u : Value} {L : List ByteArray} {lo hi lo' hi' : Nat} (h : SAns w v L lo hi) (k : SAns w u L lo' hi') (hf : L.length ≤ 100000000) : Calls Tryd.prog 10 #[v, u] w fun e w' => e = .returned (.bool true) ∧ Below w.heap.size w w' := by
  obtain ⟨a, cap, rfl, h1⟩ := h.srow
  obtain ⟨b, cap', rfl, h2⟩ := k.srow
  refine (eqStringS_any a b L L cap cap' w h1 h2 hf hf).mono ?_
  rintro e w' ⟨rfl, q, rfl⟩
  exact ⟨by unfold eqS; simp, ⟨rfl, rfl, rfl, Nat.le_refl _, fun _ _ => rfl⟩⟩
theorem markStringS_val {w : World} {v : Value} {L : List ByteArray} {lo hi : Nat} (k : Nat) (h : SAns w v L lo hi) (h0 : 0 < k) (hk : k + L.length ≤ 100000000) :
    Calls Tryd.prog 14 #[v, .int .i64 k] w fun e w' => e = .returned (.int .i64 (k + L.length : Nat)) ∧ SAns w' v (marks k L.length) lo hi ∧ Turned w w' lo hi := by
  obtain ⟨a, cap, rfl, hc, h1⟩ := h
  rcases h1 with rfl | ⟨g, rfl, q1, q2, hm⟩
  · refine (markStringS_none a k cap w).mono ?_
    rintro e w' ⟨rfl, rfl⟩
    exact ⟨rfl, ⟨a, cap, rfl, Nat.zero_le _, .inl rfl⟩, Turned.refl _ _ _⟩
  · refine (markStringS_any g L k cap w (wrow_cells.2 hm) h0 hk hc).mono ?_
    rintro e w' ⟨rfl, hw, hg⟩
    exact ⟨rfl, ⟨_, cap, by rw [marks_len], by rw [marks_len]; exact hc, .inr ⟨g, rfl, q1, q2, wrow_cells.1 hw⟩⟩, Turned.of_grown hg q1 q2⟩
theorem heldStringS_val {w : World} {v : Value} {k n lo hi : Nat} (h : SAns w v (marks k n) lo hi) (h0 : 0 < k) (hk : k + n ≤ 100000000) :
    Calls Tryd.prog 16 #[v, .int .i64 k] w fun e w' => e = .returned (.int .i64 (k + n : Nat)) ∧ Below w.heap.size w w' := by
  obtain ⟨a, cap, rfl, h1⟩ := h.srow
  rw [marks_len]
  exact heldStringS_any a k n cap w h1 h0 hk
end Go.Proofs.YtoaifodmjkhiiaaDoor
/- BoolA: Rows of flags: their copies, their comparison, marks, and as values. -/
namespace Go.Proofs.YtoaifodmjkhiiaaDoor
set_option maxRecDepth 100000
open Go.RowKit
attribute [local go_sem ↓] Go.wp_at_zero Go.wp_at_succ

def bcs (xs : List Bool) : List Value := xs.map Value.bool
theorem bcs_len (xs : List Bool) : (bcs xs).length = xs.length := by simp [bcs]
theorem bcs_get (xs : List Bool) (j : Nat) (h : j < xs.length) : (bcs xs)[j]? = some (.bool (xs.getD j false)) := by simp [bcs, List.getD, h]
theorem bcs_set (xs : List Bool) (j : Nat) (x : Bool) : (bcs xs).set j (.bool x) = bcs (xs.set j x) := by simp [bcs, List.map_set]
theorem crow_bool {w : World} {a : Option Addr} {xs : List Bool} (h : CRow w a (bcs xs)) (hp : 0 < xs.length) : ∃ b off, a = some ⟨b, off, none⟩ ∧ b < w.heap.size ∧ ∀ j, j < xs.length → w.cell? ⟨b, off + j, none⟩ = some (.bool (xs.getD j false)) := by
  obtain ⟨b, off, e, hb, hc⟩ := h (by rw [bcs_len]; exact hp)
  exact ⟨b, off, e, hb, fun j hj => hc j _ (bcs_get xs j hj)⟩
theorem infoBoolG : (Tryd.prog.info? 4).map (fun i => (i.zero, i.size, i.bytes)) = some (some (.bool false), 1, 1) := by kernel_rfl
def ToBools (xs : List Bool) (w : World) (e : Ending) (w' : World) : Prop := ∃ g, e = .returned (.slice (some ⟨g, 0, none⟩) xs.length xs.length) ∧ w.heap.size ≤ g ∧ WCells w' g (bcs xs) ∧ Below w.heap.size w w'
set_option maxHeartbeats 1000000 in
theorem eqBoolS_same (a b : Option Addr) (xs : List Bool) (ca cb : Nat) (w : World) (ha : CRow w a (bcs xs)) (hb : CRow w b (bcs xs)) (hl : xs.length ≤ 1048576) :
    Calls Tryd.prog 11 #[.slice a xs.length ca, .slice b xs.length cb] w fun e w' => e = .returned (.bool true) ∧ Below w.heap.size w w' := by
  have HA : Hid (CRow w a (bcs xs)) := ha
  have HB : Hid (CRow w b (bcs xs)) := hb
  clear ha hb
  go_enter Tryd.func11, Tryd.ntmps11
  go_wp2_with fail
  go_loopw [5] (fun i wr => ∃ (k : Nat), i = .int .i64 k ∧ k ≤ xs.length ∧ Below w.heap.size w wr) (fun i _ => xs.length - (intOf i).toNat)
  case atStart => exact ⟨0, rfl, Nat.zero_le _, Below.refl _ _⟩
  case round =>
    obtain ⟨k, rfl, hk, hbl⟩ := hrel
    by_cases hlt : k < xs.length
    · obtain ⟨b1, o1, rfl, l1, hc1⟩ := crow_bool (HA.out.stays hbl) (by omega)
      obtain ⟨b2, o2, rfl, l2, hc2⟩ := crow_bool (HB.out.stays hbl) (by omega)
      have d0 := hc1 k hlt
      have e0 := hc2 k hlt
      have k0 : (0 : Int) ≤ (k : Int) := by omega
      have k1 : (k : Int) < (xs.length : Int) := by omega
      have hbn : ∀ q, Below w.heap.size w (wr.drewN q) := fun q => hbl.trans ⟨rfl, rfl, rfl, Nat.le_refl _, fun _ _ => rfl⟩
      generalize xs.getD k false = x at d0 e0
      clear hc1 hc2 hbl
      go_wp2_with fail
      go_quiet (fail)
      go_wp2_with fail
      go_roundw
      case rel => exact ⟨k + 1, by go_num, by omega, hbn _⟩
      case measure => simp [intOf]; omega
    · have e : k = xs.length := by omega
      subst e
      go_wp2_with fail
      go_ret
      exact ⟨rfl, hbl⟩
theorem markBoolS_none (a : Option Addr) (k ca : Nat) (w : World) :
    Calls Tryd.prog 15 #[.slice a 0 ca, .int .i64 k] w fun e w' => e = .returned (.int .i64 k) ∧ w' = w := by
  go_enter Tryd.func15, Tryd.ntmps15
  go_wp2_with fail
  go_rounds 1
  go_ret
  exact ⟨rfl, rfl⟩
def MarkBools (g k n : Nat) (w : World) (e : Ending) (w' : World) : Prop := e = .returned (.int .i64 (k + n : Nat)) ∧ w.grownBy w' (some g)
set_option maxHeartbeats 1000000 in
theorem markBoolS_any (g : Nat) (xs : List Bool) (k ca : Nat) (w : World) (ha : WCells w g (bcs xs)) (hn : k + xs.length ≤ 1000000000) :
    Calls Tryd.prog 15 #[.slice (some ⟨g, 0, none⟩) xs.length ca, .int .i64 k] w fun e w' => MarkBools g k xs.length w e w' := by
  obtain ⟨n, hnx⟩ : ∃ n, n = xs.length := ⟨_, rfl⟩
  have HN : Hid (n = xs.length) := hnx
  rw [← hnx]
  rw [← hnx] at hn
  clear hnx
  have HA : Shut (WCells w g (bcs xs)) := ⟨ha⟩
  clear ha
  go_enter Tryd.func15, Tryd.ntmps15
  go_wp2_with fail
  go_loopw [1, 5] (fun c i wr => ∃ (j : Nat) (ys : List Bool), i = .int .i64 j ∧ c = .int .i64 (k + j : Nat) ∧ j ≤ n ∧ ys.length = n ∧ Shut (WCells wr g (bcs ys)) ∧ Shut (w.grownBy wr (some g))) (fun _ i _ => n - (intOf i).toNat)
  case atStart => exact ⟨0, xs, rfl, rfl, Nat.zero_le _, HN.out.symm, HA, ⟨⟨rfl, rfl, rfl, Nat.le_refl _, fun _ _ _ => rfl⟩⟩⟩
  case round =>
    obtain ⟨j, ys, rfl, rfl, hj, hyl, hw, hgr⟩ := hrel
    have HL : Hid (ys.length = n) := hyl
    by_cases hlt : j < n
    · have j0 : (0 : Int) ≤ (j : Int) := by omega
      have j1 : (j : Int) < (n : Int) := by omega
      obtain ⟨c0, z0⟩ := hw.out.2 j _ (bcs_get ys j (by omega))
      have HS := Shut.mk fun x : Bool => (bcs_set ys j x) ▸ hw.out.set j (.bool x) (by rw [bcs_len]; omega)
      have HG := Shut.mk fun v : Value => gb_two' hgr.out (gb_set' wr g j v)
      clear hyl hgr hw
      go_wp2_with fail
      go_roundw
      case rel => exact ⟨j + 1, _, by go_num, congrArg (Value.int .i64) (by omega), by omega, by rw [List.length_set]; exact HL.out, ⟨HS.out _⟩, ⟨HG.out _⟩⟩
      case measure => simp [intOf]; omega
    · have e : j = n := by omega
      subst e
      go_wp2_with fail
      go_ret
      exact ⟨rfl, hgr.out⟩
/-- A value that is these flags. -/
def BSee (w : World) (v : Value) (H : List Bool) (lo hi : Nat) : Prop := ∃ (a : Option Addr) (cap : Nat), v = .slice a H.length cap ∧ RRow w a (bcs H) lo hi
/-- A value that is these flags, in memory of its own. -/
def BAns (w : World) (v : Value) (H : List Bool) (lo hi : Nat) : Prop := ∃ (a : Option Addr) (cap : Nat), v = .slice a H.length cap ∧ (H = [] ∨ ∃ g, a = some ⟨g, 0, none⟩ ∧ lo ≤ g ∧ g < hi ∧ WCells w g (bcs H))
theorem BAns.see {w : World} {v : Value} {H : List Bool} {lo hi : Nat} (h : BAns w v H lo hi) : BSee w v H lo hi := by
  obtain ⟨a, cap, e, h1⟩ := h
  refine ⟨a, cap, e, ?_⟩
  rcases h1 with rfl | ⟨g, rfl, h1, h2, h3⟩
  · intro h; simp [bcs] at h
  · exact RRow.of_wcells h3 h1 h2
theorem BSee.turned {w w' : World} {v : Value} {H : List Bool} {lo hi lo' hi' : Nat} (h : BSee w v H lo hi) (t : Turned w w' lo' hi') (hd : hi ≤ lo' ∨ hi' ≤ lo) : BSee w' v H lo hi := by
  obtain ⟨a, cap, e, h1⟩ := h
  exact ⟨a, cap, e, h1.turned t hd⟩
theorem BSee.below {w w' : World} {v : Value} {H : List Bool} {lo hi : Nat} (h : BSee w v H lo hi) (hb : Below w.heap.size w w') : BSee w' v H lo hi := by
  obtain ⟨a, cap, e, h1⟩ := h
  exact ⟨a, cap, e, h1.below hb⟩
theorem BAns.turned {w w' : World} {v : Value} {H : List Bool} {lo hi lo' hi' : Nat} (h : BAns w v H lo hi) (t : Turned w w' lo' hi') (hd : hi ≤ lo' ∨ hi' ≤ lo) : BAns w' v H lo hi := by
  obtain ⟨a, cap, e, h1⟩ := h
  refine ⟨a, cap, e, ?_⟩
  rcases h1 with rfl | ⟨g, rfl, h1, h2, h3⟩
  · exact .inl rfl
  · exact .inr ⟨g, rfl, h1, h2, h3.turned t (by omega)⟩
theorem BAns.below {w w' : World} {v : Value} {H : List Bool} {lo hi : Nat} (h : BAns w v H lo hi) (hb : Below w.heap.size w w') : BAns w' v H lo hi := by
  obtain ⟨a, cap, e, h1⟩ := h
  refine ⟨a, cap, e, ?_⟩
  rcases h1 with rfl | ⟨g, rfl, h1, h2, h3⟩
  · exact .inl rfl
  · exact .inr ⟨g, rfl, h1, h2, h3.below hb h3.1⟩
def BPost (H : List Bool) (w : World) (e : Ending) (w' : World) : Prop := ∃ v, e = .returned v ∧ BAns w' v H w.heap.size w'.heap.size ∧ Below w.heap.size w w'
theorem eqBoolS_val {w : World} {v u : Value} {H : List Bool} {lo hi lo' hi' : Nat} (h : BSee w v H lo hi) (k : BSee w u H lo' hi') (hf : H.length ≤ 1048576) : Calls Tryd.prog 11 #[v, u] w fun e w' => e = .returned (.bool true) ∧ Below w.heap.size w w' := by
  obtain ⟨a, cap, rfl, h1⟩ := h
  obtain ⟨b, cap', rfl, h1'⟩ := k
  exact eqBoolS_same a b H cap cap' w h1.crow h1'.crow hf
theorem markBoolS_val {w : World} {v : Value} {H : List Bool} {lo hi : Nat} (k : Nat) (h : BAns w v H lo hi) (hk : k + H.length ≤ 1000000000) :
    Calls Tryd.prog 15 #[v, .int .i64 k] w fun e w' => e = .returned (.int .i64 (k + H.length : Nat)) ∧ Turned w w' lo hi := by
  obtain ⟨a, cap, rfl, h1⟩ := h
  rcases h1 with rfl | ⟨g, rfl, h1, h2, h3⟩
  · refine (markBoolS_none a k cap w).mono ?_
    rintro e w' ⟨rfl, rfl⟩
    exact ⟨rfl, Turned.refl _ _ _⟩
  · refine (markBoolS_any g H k cap w h3 hk).mono ?_
    rintro e w' ⟨rfl, hg⟩
    exact ⟨rfl, Turned.of_grown hg h1 h2⟩
end Go.Proofs.YtoaifodmjkhiiaaDoor
/- UoA: Units of a group as two lists that are answered. -/
namespace Go.Proofs.YtoaifodmjkhiiaaDoor
set_option maxRecDepth 100000
open Go.RowKit

/-- Two lists, each in memory of its own. -/
def UPost (T : List ByteArray) (Bs : List Bool) (w : World) (e : Ending) (w' : World) : Prop :=
  ∃ v u l1 h1 l2 h2, e = .returned (.tuple #[v, u]) ∧ SAns w' v T l1 h1 ∧ BAns w' u Bs l2 h2 ∧ w.heap.size ≤ l1 ∧ h1 ≤ w'.heap.size ∧ w.heap.size ≤ l2 ∧ h2 ≤ w'.heap.size ∧ (h1 ≤ l2 ∨ h2 ≤ l1) ∧ Below w.heap.size w w'
theorem upost_mk {T : List ByteArray} {Bs : List Bool} {w w' : World} {a b : Option Addr} {n c d : Nat} (hT : T.length = n) (hB : Bs.length = n) (hc : n ≤ c) (hb : Below w.heap.size w w')
    (h : n = 0 ∨ ∃ g q, a = some ⟨g, 0, none⟩ ∧ b = some ⟨q, 0, none⟩ ∧ g ≠ q ∧ w.heap.size ≤ g ∧ w.heap.size ≤ q ∧ WCells w' g (tv T) ∧ WCells w' q (bcs Bs)) : UPost T Bs w (.returned (.tuple #[.slice a n c, .slice b n d])) w' := by
  rcases h with rfl | ⟨g, q, rfl, rfl, hne, h1, h2, h3, h4⟩
  · obtain rfl := List.length_eq_zero_iff.1 hT
    obtain rfl := List.length_eq_zero_iff.1 hB
    exact ⟨_, _, w'.heap.size, w'.heap.size, w'.heap.size, w'.heap.size, rfl, ⟨a, c, rfl, Nat.zero_le _, .inl rfl⟩, ⟨b, d, rfl, .inl rfl⟩, hb.size, Nat.le_refl _, hb.size, Nat.le_refl _, .inl (Nat.le_refl _), hb⟩
  · exact ⟨_, _, g, g + 1, q, q + 1, rfl, ⟨_, c, by rw [hT], by rw [hT]; exact hc, .inr ⟨g, rfl, Nat.le_refl _, Nat.lt_succ_self _, h3⟩⟩, ⟨_, d, by rw [hB], .inr ⟨q, rfl, Nat.le_refl _, Nat.lt_succ_self _, h4⟩⟩, h1, h3.1, h2, h4.1, by omega, hb⟩
/-- A list of which a beginning is filled, and the next one under way. -/
def filT (T : List ByteArray) (k n : Nat) : List ByteArray := T.take k ++ List.replicate (n - k) ⟨#[]⟩
def filB (T : List Bool) (k n : Nat) : List Bool := T.take k ++ List.replicate (n - k) false
theorem filT_len {T : List ByteArray} {k n : Nat} (h : T.length = n) (hk : k ≤ n) : (filT T k n).length = n := by simp [filT]; omega
theorem filB_len {T : List Bool} {k n : Nat} (h : T.length = n) (hk : k ≤ n) : (filB T k n).length = n := by simp [filB]; omega
theorem fil_next {α : Type} (T : List α) (z x : α) (k n : Nat) (hk : k < n) (hT : T.length = n) (hx : T[k]? = some x) : (T.take k ++ List.replicate (n - k) z).set k x = T.take (k + 1) ++ List.replicate (n - (k + 1)) z := by
  obtain ⟨hk2, e⟩ := List.getElem?_eq_some_iff.1 hx
  obtain ⟨r, hr⟩ : ∃ r, n - k = r + 1 := ⟨n - k - 1, by omega⟩
  rw [hr, List.replicate_succ, List.take_succ_eq_append_getElem hk2, e, show n - (k + 1) = r by omega]
  rw [List.set_append_right _ _ (by rw [List.length_take]; omega)]
  rw [show k - (T.take k).length = 0 by rw [List.length_take]; omega]
  simp
theorem fil_same {α : Type} (T : List α) (z : α) (k n : Nat) (hk : k < n) (hT : T.length = n) : (T.take k ++ List.replicate (n - k) z).set k z = T.take k ++ List.replicate (n - k) z := by
  obtain ⟨r, hr⟩ : ∃ r, n - k = r + 1 := ⟨n - k - 1, by omega⟩
  rw [hr, List.replicate_succ, List.set_append_right _ _ (by rw [List.length_take]; omega), show k - (T.take k).length = 0 by rw [List.length_take]; omega]
  simp
end Go.Proofs.YtoaifodmjkhiiaaDoor
/- BoolB: Marks in rows of flags. -/
namespace Go.Proofs.YtoaifodmjkhiiaaDoor
set_option maxRecDepth 100000
open Go.RowKit
attribute [local go_sem ↓] Go.wp_at_zero Go.wp_at_succ

def marksB (k n : Nat) : List Bool := (List.range n).map fun i => (k + i) % 3 == 0
theorem marksB_len (k n : Nat) : (marksB k n).length = n := by simp [marksB]
theorem marksB_at (k n j : Nat) (h : j < n) : (marksB k n).getD j false = ((k + j) % 3 == 0) := by simp [marksB, List.getD, h]
theorem mod3i (c : Nat) : ((c : Int) % 3 == 0) = (c % 3 == 0) := by
  cases h : c % 3 == 0 with
  | true => simp at h ⊢; omega
  | false => simp at h ⊢; omega
def MarkBoolsW (g k n : Nat) (w : World) (e : Ending) (w' : World) : Prop := e = .returned (.int .i64 (k + n : Nat)) ∧ w.grownBy w' (some g) ∧ WCells w' g (bcs (marksB k n))
set_option maxHeartbeats 1000000 in
theorem markBoolS_w (g : Nat) (xs : List Bool) (k ca : Nat) (w : World) (ha : WCells w g (bcs xs)) (hn : k + xs.length ≤ 1000000000) :
    Calls Tryd.prog 15 #[.slice (some ⟨g, 0, none⟩) xs.length ca, .int .i64 k] w fun e w' => MarkBoolsW g k xs.length w e w' := by
  obtain ⟨n, hnx⟩ : ∃ n, n = xs.length := ⟨_, rfl⟩
  have HN : Hid (n = xs.length) := hnx
  rw [← hnx]
  rw [← hnx] at hn
  clear hnx
  have HA : Shut (WCells w g (bcs xs)) := ⟨ha⟩
  clear ha
  go_enter Tryd.func15, Tryd.ntmps15
  go_wp2_with fail
  go_loopw [1, 5] (fun c i wr => ∃ (j z : Nat) (ys : List Bool), i = .int .i64 j ∧ c = .int .i64 (z : Nat) ∧ z = k + j ∧ j ≤ n ∧ Shut (ys.length = n ∧ ∀ t, t < j → ys.getD t false = ((k + t) % 3 == 0)) ∧ Shut (WCells wr g (bcs ys)) ∧ Shut (w.grownBy wr (some g))) (fun _ i _ => n - (intOf i).toNat)
  case atStart => exact ⟨0, k, xs, rfl, rfl, rfl, Nat.zero_le _, ⟨HN.out.symm, fun t ht => by omega⟩, HA, ⟨⟨rfl, rfl, rfl, Nat.le_refl _, fun _ _ _ => rfl⟩⟩⟩
  case round =>
    obtain ⟨j, z, ys, rfl, rfl, hz, hj, HY, hw, hgr⟩ := hrel
    by_cases hlt : j < n
    · have j0 : (0 : Int) ≤ (j : Int) := by omega
      have j1 : (j : Int) < (n : Int) := by omega
      have hjy : j < ys.length := by have := HY.out.1; omega
      obtain ⟨c0, z0⟩ := hw.out.2 j _ (bcs_get ys j hjy)
      obtain ⟨q, hq⟩ : ∃ q, q = (z % 3 == 0) := ⟨_, rfl⟩
      have hq2 : (((z : Int)) % 3 == 0) = q := by rw [hq, mod3i]
      have HS := Shut.mk ((bcs_set ys j q) ▸ hw.out.set j (.bool q) (by rw [bcs_len]; exact hjy))
      have HG := Shut.mk (gb_two' hgr.out (gb_set' wr g j (.bool q)))
      have HZ := Shut.mk hz
      have hz2 : z < 1000000001 := by omega
      have HYN : Shut ((ys.set j q).length = n ∧ ∀ t, t < j + 1 → (ys.set j q).getD t false = ((k + t) % 3 == 0)) := ⟨by rw [List.length_set]; exact HY.out.1, fun t ht => by
        by_cases e : j = t
        · subst e
          simp only [List.getD, List.getElem?_set_self hjy, Option.getD_some]
          rw [hq, hz]
        · have := HY.out.2 t (by omega)
          rw [← this]
          simp [List.getD, List.getElem?_set_ne e]⟩
      clear hgr hw hz hq HY
      go_wp2_with fail
      go_roundw
      case rel => exact ⟨j + 1, z + 1, _, by go_num, by go_num, by have := HZ.out; omega, by omega, HYN, HS, HG⟩
      case measure => simp [intOf]; omega
    · have e : j = n := by omega
      subst e
      have HE : Shut (ys = marksB k j) := ⟨by
        apply List.ext_getElem
        · rw [marksB_len]; exact HY.out.1
        · intro t h1 h2
          have q := HY.out.2 t (by have := HY.out.1; omega)
          have q2 := marksB_at k j t (by have := HY.out.1; omega)
          rw [← q2] at q
          simpa [List.getD, h1, h2] using q⟩
      have HZ := Shut.mk hz
      clear hz HY
      go_wp2_with fail
      go_ret
      exact ⟨by rw [HZ.out]; rfl, hgr.out, by rw [← HE.out]; exact hw.out⟩
set_option maxHeartbeats 1000000 in
theorem heldBoolS_marks (a : Option Addr) (k n ca : Nat) (w : World) (ha : CRow w a (bcs (marksB k n))) (hn : k + n ≤ 1000000000) :
    Calls Tryd.prog 17 #[.slice a n ca, .int .i64 k] w fun e w' => e = .returned (.int .i64 (k + n : Nat)) ∧ Below w.heap.size w w' := by
  have HA : Hid (CRow w a (bcs (marksB k n))) := ha
  clear ha
  go_enter Tryd.func17, Tryd.ntmps17
  go_wp2_with fail
  go_loopw [1, 5] (fun c i wr => ∃ (j z : Nat), i = .int .i64 j ∧ c = .int .i64 (z : Nat) ∧ Shut (z = k + j) ∧ j ≤ n ∧ Shut (Below w.heap.size w wr)) (fun _ i _ => n - (intOf i).toNat)
  case atStart => exact ⟨0, k, rfl, rfl, ⟨rfl⟩, Nat.zero_le _, ⟨Below.refl _ _⟩⟩
  case round =>
    obtain ⟨j, z, rfl, rfl, HZ, hj, HB⟩ := hrel
    by_cases hlt : j < n
    · obtain ⟨b1, o1, rfl, l1, hc1⟩ := crow_bool (HA.out.stays HB.out) (by rw [marksB_len]; omega)
      have d0 := hc1 j (by rw [marksB_len]; exact hlt)
      rw [marksB_at k n j hlt, ← HZ.out] at d0
      obtain ⟨q, hq⟩ : ∃ q, q = (z % 3 == 0) := ⟨_, rfl⟩
      have hq2 : (((z : Int)) % 3 == 0) = q := by rw [hq, mod3i]
      rw [← hq] at d0
      have j0 : (0 : Int) ≤ (j : Int) := by omega
      have j1 : (j : Int) < (n : Int) := by omega
      have hz2 : z < 1000000001 := by have := HZ.out; omega
      have hqq : (q != q) = false := by simp
      have hbn : ∀ q, Below w.heap.size w (wr.drewN q) := fun q => HB.out.trans ⟨rfl, rfl, rfl, Nat.le_refl _, fun _ _ => rfl⟩
      have HBN := Shut.mk hbn
      clear hc1 hq hbn
      go_wp2_with fail
      all_goals (try go_quiet (fail))
      all_goals go_wp2_with fail
      all_goals exact ⟨⟨j + 1, z + 1, by go_num, by go_num, ⟨by have := HZ.out; omega⟩, by omega, by first | exact ⟨HBN.out _⟩ | exact HB⟩, by simp [intOf]; omega⟩
    · have e : j = n := by omega
      subst e
      go_wp2_with fail
      go_ret
      exact ⟨by rw [HZ.out]; rfl, HB.out⟩
theorem markBoolS_wal {w : World} {v : Value} {H : List Bool} {lo hi : Nat} (k : Nat) (h : BAns w v H lo hi) (hk : k + H.length ≤ 1000000000) :
    Calls Tryd.prog 15 #[v, .int .i64 k] w fun e w' => e = .returned (.int .i64 (k + H.length : Nat)) ∧ BAns w' v (marksB k H.length) lo hi ∧ Turned w w' lo hi := by
  obtain ⟨a, cap, rfl, h1⟩ := h
  rcases h1 with rfl | ⟨g, rfl, h1, h2, h3⟩
  · refine (markBoolS_none a k cap w).mono ?_
    rintro e w' ⟨rfl, rfl⟩
    exact ⟨rfl, ⟨a, cap, rfl, .inl rfl⟩, Turned.refl _ _ _⟩
  · refine (markBoolS_w g H k cap w h3 hk).mono ?_
    rintro e w' ⟨rfl, hg, hw⟩
    exact ⟨rfl, ⟨_, cap, by rw [marksB_len], .inr ⟨g, rfl, h1, h2, hw⟩⟩, Turned.of_grown hg h1 h2⟩
theorem heldBoolS_val {w : World} {v : Value} {k n lo hi : Nat} (h : BSee w v (marksB k n) lo hi) (hk : k + n ≤ 1000000000) :
    Calls Tryd.prog 17 #[v, .int .i64 k] w fun e w' => e = .returned (.int .i64 (k + n : Nat)) ∧ Below w.heap.size w w' := by
  obtain ⟨a, cap, rfl, h1⟩ := h
  rw [marksB_len]
  exact heldBoolS_marks a k n cap w h1.crow hk
end Go.Proofs.YtoaifodmjkhiiaaDoor
