/- Texts of ours, laid one behind the other: HoA, HsM, GrwA, HsA, PlM, OrM, OwS, GrwB, GrwC, GrwD. -/
import Derived.Test.YtoaifodmjkhiiaaPp2
import Derived.Deep.CutRange
import Derived.BigQuiet
import Derived.Maps.AppendAt
import Derived.OrdersHeld
/- HoA: Hosts in memory, and in the laws: sizes, copies, two that are the same, marks. -/
namespace Go.Proofs.Ytoaifodmjkhiiaa
set_option maxRecDepth 100000
open Go.RowKit
attribute [local go_sem ↓] Go.wp_at_zero Go.wp_at_succ

/-- A host's value: its units in a row. -/
abbrev hov (H : HM) (a : Option Addr) (cap : Nat) : Value := .agg #[.int .i64 H.id, .bool H.up, .slice a H.us.length cap]
/-- A host whose row is its own, in a stretch. -/
def HAns (w : World) (v : Value) (H : HM) (lo hi : Nat) : Prop := ∃ a cap, v = hov H a cap ∧ FRw w a (unS H.us) lo hi ∧ H.us.length ≤ cap
def HoPost (H : HM) (w : World) (e : Ending) (w' : World) : Prop := ∃ a cap, e = .returned (hov H a cap) ∧ FRw w' a (unS H.us) w.heap.size w'.heap.size ∧ H.us.length ≤ cap ∧ Below w.heap.size w w'
theorem turned_rw {W W' : World} {lo hi : Nat} {row : Option Nat} (hg : W.grownBy W' row) (hr : ∀ g, row = some g → lo ≤ g ∧ g < hi) : Turned W W' lo hi := by
  cases row with
  | none => exact Turned.of_below ⟨hg.os, hg.tape, hg.output, hg.size, fun k hk => hg.block k hk (by simp)⟩ _ _
  | some g => exact Turned.of_grown hg (hr g rfl).1 (hr g rfl).2
theorem szHost_any (H : HM) (a : Option Addr) (cap : Nat) (left : Int) (w : World) (hr : UnRow w a H.us) (hf : UnFits H.us) (h0 : 0 ≤ left) (h1 : left ≤ 1048576) :
    Calls Try.prog 6 #[hov H a cap, .int .i64 left] w fun e w' => SzPostUn left (H.us.length + unSum H.us) w e w' := by
  have HB0 := Shut.mk (show Below w.heap.size w (w.alloc (.cells #[.int .i64 H.id, .bool H.up, .slice a H.us.length cap] 24)) from (Below.refl _ _).alloc (Nat.le_refl _) _)
  have HR := Shut.mk (hr.stays HB0.out)
  have HF := Shut.mk hf
  clear hr hf
  go_enter Try.func6, Try.ntmps6
  go_wp2_with fail
  refine (szUnitS_any a H.us cap left _ HR.out HF.out h0 h1).mono ?_
  rintro e w2 ⟨r, rfl, hr1, hr2, hb2⟩
  have HB2 := Shut.mk (HB0.out.trans (hb2.mono HB0.out.size))
  have HR2 := Shut.mk hr2
  clear hb2 hr2
  by_cases hr : r < 0
  · go_wp2_with fail
    go_ret
    exact ⟨-1, rfl, by omega, by omega, HB2.out⟩
  · go_wp2_with fail
    go_ret
    exact ⟨r, rfl, hr1, HR2.out, HB2.out⟩
theorem toHost_any (H : HM) (a : Option Addr) (cap : Nat) (w : World) (hr : UnRow w a H.us) (hl : H.us.length ≤ 1048576) :
    Calls Try.prog 8 #[hov H a cap] w fun e w' => HoPost H w e w' := by
  have HS0 := Shut.mk ((((SL.start w).new #[.int .i64 H.id, .bool H.up, .slice a H.us.length cap] 24).new #[.int .i64 0, .bool false, .slice none 0 0] 29).new #[.int .i64 H.id, .bool H.up, .slice none 0 0] 29)
  simp only [World.size_alloc] at HS0
  have HR := Shut.mk hr
  clear hr
  obtain ⟨id, up, us⟩ := H
  dsimp only at *
  obtain ⟨n, hn⟩ : ∃ n, n = us.length := ⟨_, rfl⟩
  have HN := Shut.mk hn
  show Calls Try.prog 8 #[.agg #[.int .i64 id, .bool up, .slice a us.length cap]] w fun e w' => HoPost ⟨id, up, us⟩ w e w'
  rw [← hn] at HS0 hl ⊢
  clear hn
  go_enter Try.func8, Try.ntmps8
  go_upto_region 4 with fail
  refine wp_shade (fun W => SL w W [bxS (w.heap.size + 1 + 1) [.int .i64 id, .bool up, .slice none 0 0], bxS (w.heap.size + 1) [.int .i64 0, .bool false, .slice none 0 0], bxS w.heap.size [.int .i64 id, .bool up, .slice a n cap]]) HS0.out ?_
  intro W hW
  have HW := Shut.mk hW
  have HW0 := Shut.mk hW.bel.size
  clear HS0 hW
  have x2 := (HW.out.bx 2 rfl 2 _ rfl).1
  go_upto_region 5 with (go_at_call 25; rw [HN.out]; refine (toUnitS_any a us cap W (HR.out.stays HW.out.bel) (by have := HN.out; omega)).mono ?_; rintro e w2 ⟨g, rfl, hg, hw, hb⟩; have HS := Shut.mk (HW.out.add (s := rwS (some ⟨g, 0, none⟩) (unS us) W.heap.size w2.heap.size) hb (FRw.of_wcells hw hg hw.1) (rwS.loc _ _ _ _) (Nat.le_refl _) (Nat.le_refl _)); rw [← HN.out]; have y2 := HS.out.bx 1 rfl 2 _ rfl; clear hb hw hg x2 HW; obtain ⟨y2, y2z⟩ := y2)
  have HP := Shut.mk (HS.out.put 1 rfl 2 (.slice (some ⟨g, 0, none⟩) n n) (by simp))
  simp only [List.set_cons_zero, List.set_cons_succ] at HP
  refine wp_shade (fun W' => SL w W' [rwS (some ⟨g, 0, none⟩) (unS us) W.heap.size w2.heap.size, bxS (w.heap.size + 1 + 1) [.int .i64 id, .bool up, .slice (some ⟨g, 0, none⟩) n n], bxS (w.heap.size + 1) [.int .i64 0, .bool false, .slice none 0 0], bxS w.heap.size [.int .i64 id, .bool up, .slice a n cap]] ∧ W'.heap.size = w2.heap.size) ⟨HP.out, by simp [World.setCell]⟩ ?_
  intro W3 h3
  have H3 := Shut.mk h3.1
  have HZ := Shut.mk h3.2
  have hlt : W.heap.size ≤ w2.heap.size := by have := HS.out.is _ (List.mem_cons_self ..); have h1 := this.2.2.2; have := HS.out.at 0 rfl; rcases this with ⟨e, _⟩ | ⟨q, _, h4, h5, _⟩; cases e; dsimp only at h1; omega
  have HL := Shut.mk (And.intro hlt HW0.out)
  have z0 := (H3.out.bx 1 rfl 0 _ rfl).1
  have z1 := (H3.out.bx 1 rfl 1 _ rfl).1
  have z2 := (H3.out.bx 1 rfl 2 _ rfl).1
  obtain ⟨r0, r0z⟩ := H3.out.bx 2 rfl 0 _ rfl
  obtain ⟨r1, r1z⟩ := H3.out.bx 2 rfl 1 _ rfl
  obtain ⟨r2, r2z⟩ := H3.out.bx 2 rfl 2 _ rfl
  clear h3 HS HP y2 y2z hlt HW0
  go_wp2_with fail
  have HE := Shut.mk ((((H3.out.put 2 rfl 0 (.int .i64 id) (by simp)).put 2 rfl 1 (.bool up) (by simp)).put 2 rfl 2 (.slice (some ⟨g, 0, none⟩) n n) (by simp)))
  refine bodyPost_ret (v := .agg #[.int .i64 id, .bool up, .slice (some ⟨g, 0, none⟩) n n]) (by simp [results, Try.results8, go_sem, r0, r1, r2]) rfl ⟨some ⟨g, 0, none⟩, n, by rw [HN.out], ?_, by have := HN.out; show us.length ≤ n; omega, HE.out.bel⟩
  have hq : FRw _ (some ⟨g, 0, none⟩) (unS us) W.heap.size w2.heap.size := HE.out.at 0 rfl
  rcases hq with ⟨e, _⟩ | ⟨q, e, h4, h5, h6⟩
  · cases e
  · exact .inr ⟨q, e, by have := HL.out.2; omega, by have := HZ.out; simp [World.setCell]; omega, h6⟩
theorem eqHost_same (H : HM) (a b : Option Addr) (ca cb : Nat) (w : World) (ha : UnRow w a H.us) (hb : UnRow w b H.us) (hl : H.us.length ≤ 9000000) :
    Calls Try.prog 10 #[hov H a ca, hov H b cb] w fun e w' => e = .returned (.bool true) ∧ Below w.heap.size w w' := by
  have hb0 : Below w.heap.size w ((w.alloc (.cells #[.int .i64 H.id, .bool H.up, .slice a H.us.length ca] 29)).alloc (.cells #[.int .i64 H.id, .bool H.up, .slice b H.us.length cb] 29)) := ((Below.refl _ _).alloc (Nat.le_refl _) _).alloc (by simp) _
  have HA := Shut.mk (ha.stays hb0)
  have HB := Shut.mk (hb.stays hb0)
  have HB0 := Shut.mk hb0
  have hu : (H.up != H.up) = false := by simp
  clear ha hb hb0
  go_enter Try.func10, Try.ntmps10
  go_wp2_with fail
  refine (eqUnitS_same a b H.us ca cb _ HA.out HB.out hl).mono ?_
  rintro e w2 ⟨rfl, hb2⟩
  have HB2 := Shut.mk (HB0.out.trans (hb2.mono HB0.out.size))
  clear hb2
  go_wp2_with fail
  go_ret
  exact ⟨rfl, HB2.out⟩
/-- The host whose units are marks. -/
def markH (H : HM) (k : Nat) : HM := ⟨H.id, H.up, marksU k H.us.length⟩
end Go.Proofs.Ytoaifodmjkhiiaa
/- HsM: Rows of hosts in memory: one that is read, one that may be written. -/
namespace Go.Proofs.Ytoaifodmjkhiiaa
set_option maxRecDepth 100000
open Go.RowKit

/-- A host, and where its units lie. -/
structure HoR where
  h : HM
  loc : Option Addr
  cap : Nat
instance : Inhabited HoR := ⟨⟨default, none, 0⟩⟩
def hC (r : HoR) : List Value := [.int .i64 r.h.id, .bool r.h.up, .slice r.loc r.h.us.length r.cap]
theorem hC_len (r : HoR) : (hC r).length = 3 := rfl
def HK : NK HoR := ⟨hC, 3, hC_len, HoR.loc, fun r => unS r.h.us⟩
def hS (rs : List HoR) : List Value := HK.cells rs
theorem hS_len (rs : List HoR) : (hS rs).length = rs.length * 3 := HK.cells_len rs
def hms (rs : List HoR) : List HM := rs.map HoR.h
theorem hms_len (rs : List HoR) : (hms rs).length = rs.length := by simp [hms]
/-- A row of hosts, as it is read. -/
def HsRow (w : World) (a : Option Addr) (rs : List HoR) : Prop := CRow w a (hS rs) ∧ ∀ r ∈ rs, UnRow w r.loc r.h.us
theorem HsRow.stays {w w' : World} {a : Option Addr} {rs : List HoR} (h : HsRow w a rs) (hb : Below w.heap.size w w') : HsRow w' a rs := ⟨h.1.stays hb, fun r hr => (h.2 r hr).stays hb⟩
theorem HsRow.at {w : World} {a : Option Addr} {rs : List HoR} (h : HsRow w a rs) (hp : 0 < rs.length) : ∃ b off, a = some ⟨b, off, none⟩ ∧ b < w.heap.size ∧ ∀ k (hk : k < rs.length), w.cell? ⟨b, off + k * 3, none⟩ = some (.int .i64 rs[k].h.id) ∧ w.cell? ⟨b, off + k * 3 + 1, none⟩ = some (.bool rs[k].h.up) ∧ w.cell? ⟨b, off + k * 3 + 2, none⟩ = some (.slice rs[k].loc rs[k].h.us.length rs[k].cap) ∧ UnRow w rs[k].loc rs[k].h.us := by
  obtain ⟨b, off, e, lb, hc⟩ := h.1 (by rw [hS_len]; omega)
  refine ⟨b, off, e, lb, fun k hk => ?_⟩
  have q : ∀ i v, i < 3 → (hC rs[k])[i]? = some v → w.cell? ⟨b, off + (k * 3 + i), none⟩ = some v := fun i v hi hv => hc _ v (by
    have := HK.cells_get rs k hk i hi
    exact this.trans hv)
  have q0 := q 0 _ (by omega) rfl
  have q1 := q 1 _ (by omega) rfl
  have q2 := q 2 _ (by omega) rfl
  rw [Nat.add_zero] at q0
  rw [← Nat.add_assoc] at q1 q2
  exact ⟨q0, q1, q2, h.2 _ (List.getElem_mem hk)⟩
/-- A host of a row, in every later world. -/
theorem hs_at {w W : World} {a : Option Addr} {rs : List HoR} (hr : HsRow w a rs) (hb : Below w.heap.size w W) {k : Nat} (hk : k < rs.length) : ∃ b off r, a = some ⟨b, off, none⟩ ∧ r = rs[k] ∧ b < w.heap.size ∧ ∀ X, Below W.heap.size W X → X.cell? ⟨b, off + k * 3, none⟩ = some (.int .i64 r.h.id) ∧ X.cell? ⟨b, off + k * 3 + 1, none⟩ = some (.bool r.h.up) ∧ X.cell? ⟨b, off + k * 3 + 2, none⟩ = some (.slice r.loc r.h.us.length r.cap) ∧ UnRow X r.loc r.h.us := by
  obtain ⟨b, off, e, lb, _⟩ := hr.at (by omega)
  refine ⟨b, off, rs[k], e, rfl, lb, fun X hX => ?_⟩
  obtain ⟨b', off', e', _, hc⟩ := (hr.stays (hb.trans (hX.mono hb.size))).at (by omega)
  rw [e] at e'
  simp only [Option.some.injEq, Addr.mk.injEq, and_true] at e'
  obtain ⟨rfl, rfl⟩ := e'
  exact hc k hk
/-- A row of hosts that may be written: all in a range. -/
def HsW (w : World) (va : Option Addr) (rs : List HoR) (lo hi : Nat) : Prop := (∀ r ∈ rs, r.h.us.length ≤ r.cap) ∧ ((va = none ∧ rs = []) ∨ ∃ g, va = some ⟨g, 0, none⟩ ∧ GW HK w g rs lo hi)
theorem HsW.row {w : World} {va : Option Addr} {rs : List HoR} {lo hi : Nat} (h : HsW w va rs lo hi) : HsRow w va rs := by
  rcases h.2 with ⟨rfl, rfl⟩ | ⟨g, rfl, hg⟩
  · exact ⟨fun hp => by rw [hS_len] at hp; simp at hp, fun r hr => by cases hr⟩
  · exact ⟨hg.gr.1.crow, fun r hr => (hg.gr.2 r hr).crow⟩
theorem HsW.turned {w w' : World} {va : Option Addr} {rs : List HoR} {lo hi lo' hi' : Nat} (h : HsW w va rs lo hi) (t : Turned w w' lo' hi') (hd : hi ≤ lo' ∨ hi' ≤ lo) : HsW w' va rs lo hi :=
  ⟨h.1, h.2.imp id fun ⟨g, e, hg⟩ => ⟨g, e, hg.turned t hd⟩⟩
theorem HsW.below {w w' : World} {va : Option Addr} {rs : List HoR} {lo hi : Nat} (h : HsW w va rs lo hi) (hb : Below w.heap.size w w') : HsW w' va rs lo hi := ⟨h.1, h.2.imp id fun ⟨g, e, hg⟩ => ⟨g, e, hg.below hb⟩⟩
theorem HsW.wide {w : World} {va : Option Addr} {rs : List HoR} {lo hi lo' hi' : Nat} (h : HsW w va rs lo hi) (h1 : lo' ≤ lo) (h2 : hi ≤ hi') : HsW w va rs lo' hi' := ⟨h.1, h.2.imp id fun ⟨g, e, hg⟩ => ⟨g, e, hg.wide h1 h2⟩⟩
/-- A row of hosts as a stretch. -/
abbrev hsS (va : Option Addr) (rs : List HoR) (lo hi : Nat) : Str := ⟨fun W => HsW W va rs lo hi, lo, hi⟩
theorem hsS.loc (va : Option Addr) (rs : List HoR) (lo hi : Nat) : (hsS va rs lo hi).Loc := fun _ _ _ _ h t hd => HsW.turned h t hd
/-- The answer: hosts in rows of the call's own. -/
def HsPost (hs : List HM) (w : World) (e : Ending) (w' : World) : Prop := ∃ va cap rs, e = .returned (.slice va rs.length cap) ∧ hms rs = hs ∧ HsW w' va rs w.heap.size w'.heap.size ∧ rs.length ≤ cap ∧ Below w.heap.size w w'
/-- How much hosts hold. -/
def hsSum : List HM → Nat
  | [] => 0
  | h :: hs => (h.us.length + unSum h.us) + hsSum hs
theorem hsSum_take (hs : List HM) (k : Nat) (h : k < hs.length) : hsSum (hs.take (k + 1)) = hsSum (hs.take k) + (hs[k].us.length + unSum hs[k].us) := by
  induction hs generalizing k with
  | nil => simp at h
  | cons a hs ih =>
    cases k with
    | zero => simp [hsSum]
    | succ k =>
      have := ih k (by simpa using h)
      simp only [List.take_succ_cons, hsSum, List.getElem_cons_succ] at this ⊢
      omega
theorem hsSum_mem {hs : List HM} {h : HM} (hm : h ∈ hs) : h.us.length + unSum h.us ≤ hsSum hs := by
  induction hs with
  | nil => cases hm
  | cons a hs ih =>
    simp only [hsSum]
    rcases List.mem_cons.1 hm with rfl | hm
    · omega
    · have := ih hm; omega
def HsFits (hs : List HM) : Prop := hs.length ≤ 9223372036854775807 ∧ ∀ h ∈ hs, UnFits h.us ∧ -9223372036854775808 ≤ h.id ∧ h.id ≤ 9223372036854775807
/-- The hosts whose fields are marks. -/
def marksH (k : Nat) : List HM → List HM
  | [] => []
  | h :: hs => ⟨(k : Nat), (k + 1) % 3 == 0, marksU (k + 2) h.us.length⟩ :: marksH (k + 2 + 4 * h.us.length) hs
def endH (k : Nat) : List HM → Nat
  | [] => k
  | h :: hs => endH (k + 2 + 4 * h.us.length) hs
theorem endH_eq (k : Nat) (hs : List HM) : endH k hs = k + 2 * hs.length + 4 * (hs.map fun h => h.us.length).sum := by
  induction hs generalizing k with
  | nil => simp [endH]
  | cons h hs ih => simp only [endH, ih, List.length_cons, List.map_cons, List.sum_cons]; omega
theorem marksH_len (k : Nat) (hs : List HM) : (marksH k hs).length = hs.length := by
  induction hs generalizing k with
  | nil => rfl
  | cons h hs ih => simp [marksH, ih]
theorem endH_take (k : Nat) (hs : List HM) (j : Nat) (hj : j < hs.length) : endH k (hs.take (j + 1)) = endH k (hs.take j) + 2 + 4 * hs[j].us.length := by
  induction hs generalizing k j with
  | nil => simp at hj
  | cons h hs ih =>
    cases j with
    | zero => simp [endH]
    | succ j => simpa [endH] using ih (k + 2 + 4 * h.us.length) j (by simpa using hj)
theorem marksH_at (k : Nat) (hs : List HM) (j : Nat) (hj : j < hs.length) : (marksH k hs)[j]'(by rw [marksH_len]; exact hj) = ⟨(endH k (hs.take j) : Nat), (endH k (hs.take j) + 1) % 3 == 0, marksU (endH k (hs.take j) + 2) hs[j].us.length⟩ := by
  induction hs generalizing k j with
  | nil => simp at hj
  | cons h hs ih =>
    cases j with
    | zero => simp [marksH, endH]
    | succ j => simpa [marksH, endH] using ih (k + 2 + 4 * h.us.length) j (by simpa using hj)
/-- A host is laid anew into such a row. -/
theorem GW.host {w w2 : World} {g lo : Nat} {rs : List HoR} (h : GW HK w g rs lo w.heap.size) (hb : Below w.heap.size w w2) (j : Nat) (hj : j < rs.length) (H : HM) (a : Option Addr) (cap : Nat) (hF : FRw w2 a (unS H.us) w.heap.size w2.heap.size) (hlo : lo ≤ w.heap.size) :
    GW HK (setW w2 g (j * 3) (hC ⟨H, a, cap⟩)) g (rs.set j ⟨H, a, cap⟩) lo w2.heap.size := by
  have k := (h.below hb).wide (Nat.le_refl _) hb.size
  refine k.put j hj ⟨H, a, cap⟩ ?_ fun s hs h1 h2 e => ?_
  · rcases hF with ⟨_, e⟩ | ⟨q, e, q1, q2, q3⟩
    · exact .inl e
    · exact .inr ⟨q, e, by omega, q2, by have := h.ghi; omega, q3⟩
  · rcases h.rows s hs with q | ⟨b, e1, q1, q2, q3, q4⟩
    · exact h1 q
    · rcases hF with ⟨_, q⟩ | ⟨q, e2, p1, p2, p3⟩
      · exact h2 q
      · have : some (⟨b, 0, none⟩ : Addr) = some ⟨q, 0, none⟩ := by rw [← e1, ← e2]; exact e
        simp only [Option.some.injEq, Addr.mk.injEq, and_true] at this
        omega
theorem setW3 (w : World) (g o : Nat) (v0 v1 v2 : Value) : setW w g o [v0, v1, v2] = ((w.setCell ⟨g, o, none⟩ v0).setCell ⟨g, o + 1, none⟩ v1).setCell ⟨g, o + 2, none⟩ v2 := rfl
theorem setW_sz (w : World) (g off : Nat) (vs : List Value) : (setW w g off vs).heap.size = w.heap.size := by
  induction vs generalizing w off with
  | nil => rfl
  | cons v vs ih => show (setW _ g (off + 1) vs).heap.size = _; rw [ih]; simp [World.setCell]
end Go.Proofs.Ytoaifodmjkhiiaa
/- GrwA: A region that draws its order, whose operations only read and whose callees make new memory alone and answer one value wherever they are called: one walk, in the text's order. -/
namespace Go.Proofs.Ytoaifodmjkhiiaa
set_option maxRecDepth 100000
open Go.RowKit

/-- A world with more memory. -/
structure Grow (w : World) where
  val : World
  bel : Below w.heap.size w val
instance {w : World} : Nonempty (Grow w) := ⟨⟨w, Below.refl _ _⟩⟩
theorem wp_region_grow {P : Program} {id : Nat} {Q : Exit → Act → World → Prop} {a : Act} {w : World} {l : List Oper} (hm : P.follows .mixedOrders = true) (hB : Region.lexB .any l.toArray = true)
    (h : wpQuiet P l.toArray (fun W => ∃ X : Grow w, W = X.val) (fun a' => ∀ w', (∃ X : Grow w, w' = X.val) → Q .normal a' w') l a) : (Code.region id l.toArray true).wp P Q a w :=
  wp_region_quiet (C := fun W => ∃ X : Grow w, W = X.val) hm hB ⟨⟨w.drew, Below.drew (Below.refl _ _)⟩, rfl⟩ (by simpa using h)
theorem Grow.cell {w : World} (X : Grow w) {p : Addr} {v : Value} (h : w.cell? p = some v) (hl : p.block < w.heap.size) : X.val.cell? p = some v := (X.bel.cell hl).trans h
theorem calls_grow {P : Program} {f : FuncId} {args : Array Value} {w : World} {v : Value} (h : ∀ W, Below w.heap.size w W → Calls P f args W fun e w' => e = .returned v ∧ Below W.heap.size W w') (X : Grow w) :
    Calls P f args X.val fun e w'' => e = .returned v ∧ ∃ Y : Grow w, w'' = Y.val :=
  (h X.val X.bel).mono fun _ w'' ⟨he, hb⟩ => ⟨he, ⟨w'', X.bel.trans (hb.mono X.bel.size)⟩, rfl⟩
theorem calls_same {P : Program} {f : FuncId} {args : Array Value} {w : World} {v : Value} (h : ∀ W, Below w.heap.size w W → Calls P f args W fun e w' => e = .returned v ∧ w' = W) (X : Grow w) :
    Calls P f args X.val fun e w'' => e = .returned v ∧ ∃ Y : Grow w, w'' = Y.val :=
  (h X.val X.bel).mono fun _ _ ⟨he, hb⟩ => ⟨he, X, hb⟩
end Go.Proofs.Ytoaifodmjkhiiaa
/- HsA: Rows of hosts in the laws: sizes, copies, two that are the same. -/
namespace Go.Proofs.Ytoaifodmjkhiiaa
set_option maxRecDepth 100000
open Go.RowKit BigFrame
attribute [local go_sem ↓] Go.wp_at_zero Go.wp_at_succ

set_option maxRecDepth 100000 in
set_option maxHeartbeats 1000000 in
theorem szHostS_any (a : Option Addr) (rs : List HoR) (cap : Nat) (left : Int) (w : World) (hr : HsRow w a rs) (hf : HsFits (hms rs)) (h0 : 0 ≤ left) (h1 : left ≤ 1048576) :
    Calls Try.prog 11 #[.slice a rs.length cap, .int .i64 left] w fun e w' => SzPostUn left (rs.length + hsSum (hms rs)) w e w' := by
  obtain ⟨n, hn⟩ : ∃ n, n = rs.length := ⟨_, rfl⟩
  have HN := Shut.mk hn
  have hl : n ≤ 9223372036854775807 := by rw [hn, ← hms_len]; exact hf.1
  rw [← hn]
  clear hn
  by_cases c1 : left - n < 0
  · clear hr hf
    go_enter Try.func11, Try.ntmps11
    go_wp2_with fail
    go_ret
    exact ⟨-1, rfl, by omega, by omega, Below.refl _ _⟩
  · have HR := Shut.mk hr
    have HF := Shut.mk hf
    have HML : Shut ((hms rs).length = n) := ⟨by rw [hms_len, HN.out]⟩
    clear hr hf
    go_enter Try.func11, Try.ntmps11
    go_wp2_with fail
    go_loopw [1, 5] (fun v i wr => ∃ (k : Nat) (l : Int), v = .int .i64 l ∧ i = .int .i64 k ∧ k ≤ n ∧ 0 ≤ l ∧ Shut (l + n + hsSum ((hms rs).take k) = left) ∧ Shut (Below w.heap.size w wr)) (fun _ i _ => n - (intOf i).toNat)
    case atStart => exact ⟨0, left - n, rfl, rfl, Nat.zero_le _, by omega, ⟨by simp [hsSum]⟩, ⟨Below.refl _ _⟩⟩
    case round =>
      obtain ⟨k, l, rfl, rfl, hk, hl0, HS, HB⟩ := hrel
      by_cases hlt : k < n
      · have hkr : k < rs.length := by rw [← HN.out]; exact hlt
        obtain ⟨b, off, r, rfl, hre, lb, hc⟩ := hs_at HR.out HB.out hkr
        obtain ⟨d0, d1, d2, d3⟩ := hc wr (Below.refl _ _)
        have hme : (hms rs)[k]'(by rw [hms_len]; exact hkr) = r.h := by rw [hre]; simp [hms]
        have HST : Shut (hsSum ((hms rs).take (k + 1)) = hsSum ((hms rs).take k) + (r.h.us.length + unSum r.h.us)) := ⟨by have := hsSum_take (hms rs) k (by rw [hms_len]; exact hkr); rw [hme] at this; exact this⟩
        have hl1 : l ≤ 1048576 := by have := HS.out; omega
        have HSZ := Shut.mk (fun W (hW : Below wr.heap.size wr W) => szHost_any r.h r.loc r.cap l W (d3.stays hW) (HF.out.2 r.h (by rw [← hme]; exact List.getElem_mem _)).1 hl0 hl1)
        obtain ⟨H, rl, rc⟩ := r
        obtain ⟨hid, hup, hus⟩ := H
        dsimp only [hov] at *
        obtain ⟨m, hm⟩ : ∃ m, m = hus.length := ⟨_, rfl⟩
        rw [← hm] at d2 HSZ HST
        have k0 : (0 : Int) ≤ (k : Int) := by omega
        have k1 : (k : Int) < (n : Int) := by omega
        clear hc hre hme d3 hm
        go_wp2_with fail
        refine (HSZ.out _ (Below.refl _ _)).mono ?_
        rintro e w2 ⟨r, rfl, hr1, hr2, hb2⟩
        have HB2 := Shut.mk (HB.out.trans (hb2.mono HB.out.size))
        clear hb2
        by_cases hr : r < 0
        · go_wp2_with fail
          go_ret
          exact ⟨-1, rfl, by omega, by omega, HB2.out⟩
        · have HS2 : Shut (r + n + hsSum ((hms rs).take (k + 1)) = left) := ⟨by have h1 := hr2 (by omega); have h2 := HS.out; rw [HST.out]; push_cast at h1 ⊢; omega⟩
          clear hr2
          go_wp2_with fail
          go_roundw
          case rel => exact ⟨k + 1, r, rfl, by go_num, by omega, by omega, HS2, HB2⟩
          case measure => simp [intOf]; omega
      · obtain rfl : n = k := by omega
        have HE : Shut (l + (n + hsSum (hms rs) : Nat) = left) := ⟨by have h := HS.out; rw [List.take_of_length_le (by rw [HML.out]; exact Nat.le_refl _)] at h; push_cast; omega⟩
        go_wp2_with fail
        go_ret
        exact ⟨l, rfl, by omega, fun _ => HE.out, HB.out⟩
theorem infoHost : (Try.prog.info? 29).map (fun i => (i.zero, i.size, i.bytes)) = some (some (.agg #[.int .i64 0, .bool false, .slice none 0 0]), 3, 40) := by kernel_rfl
set_option maxRecDepth 100000 in
set_option maxHeartbeats 4000000 in
theorem toHostS_any (a : Option Addr) (rs : List HoR) (cap : Nat) (w : World) (hm : HsRow w a rs) (hl : rs.length ≤ 1048576) (hp : ∀ r ∈ rs, r.h.us.length ≤ 1048576) :
    Calls Try.prog 13 #[.slice a rs.length cap] w fun e w' => HsPost (hms rs) w e w' := by
  obtain ⟨i0, hi, hz0, hz1, hz2⟩ := info_parts infoHost
  have HR := Shut.mk (And.intro hm hp)
  obtain ⟨n, hn⟩ : ∃ n, n = rs.length := ⟨_, rfl⟩
  have HN := Shut.mk hn
  rw [← hn] at hl ⊢
  clear hm hp hn
  go_enter Try.func13, Try.ntmps13
  go_wp2_with (at_make; refine wpList_make_full _ rfl _ _ 38 rfl w.heap.size 29 i0 _ 3 Try.underlying38 hi hz0 hz1 .i64 .i64 _ _ n rfl rfl (by omega) (by omega) ?b2 ?b3 ?b4 ?_)
  case b2 => rw [hz2]; omega
  case b3 => unfold maxLen; omega
  case b4 => omega
  intro wm hownm hgrm
  have hbm : Below w.heap.size w wm := (Below.refl _ _).grown hgrm (Nat.le_refl _) (fun j hj => by simp at hj)
  have hrow : WCells wm w.heap.size (hS (List.replicate n default)) := by
    have h := own_wcells hownm
    have e : (madeCells #[.int .i64 0, .bool false, .slice none 0 0] (n * 3)).toList = hS (List.replicate n default) := made_flat hC_len (by decide) #[.int .i64 0, .bool false, .slice none 0 0] default rfl _
    rw [e] at h; exact h
  have HTW : Shut (GW HK wm w.heap.size (List.replicate n default) w.heap.size wm.heap.size ∧ ∀ r ∈ List.replicate n (default : HoR), r.h.us.length ≤ r.cap) := ⟨⟨⟨hrow, Nat.le_refl _, hrow.1, fun r hr => .inl (by rw [List.eq_of_mem_replicate hr]; rfl), List.pairwise_iff_getElem.2 (fun i j hi hj _ h1 => absurd (by simp only [List.getElem_replicate]; rfl) h1)⟩, fun r hr => by rw [List.eq_of_mem_replicate hr]; exact Nat.le_refl _⟩⟩
  have HBM := Shut.mk hbm
  clear hownm hgrm hrow hbm
  go_wp2_with fail
  go_loopw [4] (fun i wr => ∃ (k : Nat) (gs : List HoR), i = .int .i64 k ∧ k ≤ n ∧ Shut (gs.length = n ∧ hms (gs.take k) = hms (rs.take k)) ∧ Shut (GW HK wr w.heap.size gs w.heap.size wr.heap.size ∧ ∀ r ∈ gs, r.h.us.length ≤ r.cap) ∧ Shut (Below w.heap.size w wr)) (fun i _ => n - (intOf i).toNat)
  case atStart => exact ⟨0, _, rfl, by omega, ⟨by simp, by simp⟩, HTW, HBM⟩
  case round =>
    clear HTW HBM
    obtain ⟨k, gs, rfl, hk, HG, hw, hb⟩ := hrel
    by_cases hlt : k < n
    · have hlr : k < rs.length := by have := HN.out; omega
      obtain ⟨b, off, r, rfl, hre, lb, hc⟩ := hs_at HR.out.1 hb.out hlr
      obtain ⟨d0, d1, d2, d3⟩ := hc wr (Below.refl _ _)
      have HRE : Shut (r = rs[k]) := ⟨hre⟩
      have HTO := Shut.mk (fun W (hW : Below wr.heap.size wr W) => toHost_any r.h r.loc r.cap W (d3.stays hW) (by rw [hre]; exact HR.out.2 _ (List.getElem_mem hlr)))
      unfold HoPost at HTO
      obtain ⟨H, rl, rc⟩ := r
      dsimp only [hov] at *
      obtain ⟨m, hm⟩ : ∃ m, m = H.us.length := ⟨_, rfl⟩
      rw [← hm] at d2 HTO
      have HM := Shut.mk hm
      have k0 : (0 : Int) ≤ (k : Int) := by omega
      have k1 : (k : Int) < (n : Int) := by omega
      clear hc hre d3 hm
      go_wp2_with fail
      refine (HTO.out _ (Below.refl _ _)).mono ?_
      rintro e w2 ⟨a', c', rfl, hF, hc', hb2⟩
      have hgk : k < gs.length := by have := HG.out.1; omega
      have HC := Shut.mk ((hw.out.1.host hb2 k hgk H a' c' hF hb.out.size).wide (Nat.le_refl _) (Nat.le_of_eq (setW_sz w2 w.heap.size (k * 3) (hC ⟨H, a', c'⟩)).symm))
      have HWO := Shut.mk (hw.out.1.out.below hb2 hw.out.1.out.1)
      have HB3 := Shut.mk (below_setW (hb.out.trans (hb2.mono hb.out.size)) (Nat.le_refl _) (k * 3) (hC ⟨H, a', c'⟩))
      have HCP : Shut (∀ r ∈ gs.set k ⟨H, a', c'⟩, r.h.us.length ≤ r.cap) := ⟨fun r hr => by
        rcases List.mem_or_eq_of_mem_set hr with q | rfl
        · exact hw.out.2 r q
        · show H.us.length ≤ c'; have := HM.out; omega⟩
      unfold hC at HC HB3
      dsimp only at HC HB3
      rw [setW3, ← HM.out] at HC HB3
      clear hw hb hb2 hF d0 d1 d2
      obtain ⟨c0, z0⟩ := HWO.out.2 (k * 3) _ (flat_get hC_len gs k hgk 0 (by omega))
      obtain ⟨c1, z1⟩ := HWO.out.2 (k * 3 + 1) _ (flat_get hC_len gs k hgk 1 (by omega))
      obtain ⟨c2, z2⟩ := HWO.out.2 (k * 3 + 2) _ (flat_get hC_len gs k hgk 2 (by omega))
      clear HWO
      go_wp2_with fail
      go_roundw
      case rel =>
        refine ⟨k + 1, gs.set k ⟨H, a', c'⟩, by go_num, by omega, ⟨by rw [List.length_set]; exact HG.out.1, ?_⟩, ⟨HC.out, HCP.out⟩, HB3⟩
        rw [List.take_succ_eq_append_getElem (by rw [List.length_set]; exact hgk), List.take_succ_eq_append_getElem hlr, List.take_set_of_le (Nat.le_refl _)]
        have e1 := HG.out.2
        unfold hms at e1 ⊢
        rw [List.map_append, List.map_append, e1, List.getElem_set_self, ← HRE.out]
        rfl
      case measure => simp [intOf]; omega
    · have e : hms gs = hms rs := by
        have h := HG.out.2
        rw [List.take_of_length_le (by have := HG.out.1; omega), List.take_of_length_le (by have := HN.out; omega)] at h; exact h
      have HE := Shut.mk e
      have HGL := Shut.mk HG.out.1
      clear e HG
      go_wp2_with fail
      go_ret
      exact ⟨_, n, gs, by rw [HGL.out]; rfl, HE.out, ⟨hw.out.2, .inr ⟨_, rfl, hw.out.1⟩⟩, Nat.le_of_eq HGL.out, hb.out⟩
set_option maxRecDepth 100000 in
set_option maxHeartbeats 2000000 in
theorem eqHostS_same (a b : Option Addr) (ra rb : List HoR) (ca cb : Nat) (w : World) (ha : HsRow w a ra) (hb : HsRow w b rb) (he : hms ra = hms rb) (hl : ra.length ≤ 9000000) (hp : ∀ r ∈ ra, r.h.us.length ≤ 9000000) :
    Calls Try.prog 16 #[.slice a ra.length ca, .slice b rb.length cb] w fun e w' => e = .returned (.bool true) ∧ Below w.heap.size w w' := by
  have hlen : rb.length = ra.length := by rw [← hms_len ra, ← hms_len rb, he]
  obtain ⟨n, hn⟩ : ∃ n, n = ra.length := ⟨_, rfl⟩
  have HN := Shut.mk (And.intro hn (hlen.trans hn.symm))
  rw [hlen, ← hn]
  rw [← hn] at hl
  have HA := Shut.mk ha
  have HB := Shut.mk hb
  have HE := Shut.mk (And.intro he hp)
  clear ha hb he hp hlen hn
  go_enter Try.func16, Try.ntmps16
  go_wp2_with fail
  go_loopw [5] (fun i wr => ∃ (k : Nat), i = .int .i64 k ∧ k ≤ n ∧ Shut (Below w.heap.size w wr)) (fun i _ => n - (intOf i).toNat)
  case atStart => exact ⟨0, rfl, Nat.zero_le _, ⟨Below.refl _ _⟩⟩
  case round =>
    obtain ⟨k, rfl, hk, HW⟩ := hrel
    by_cases hlt : k < n
    · have hka : k < ra.length := by have := HN.out.1; omega
      have hkb : k < rb.length := by have := HN.out.2; omega
      obtain ⟨b1, o1, r1, rfl, hr1, l1, hc1⟩ := hs_at HA.out HW.out hka
      obtain ⟨b2, o2, r2, rfl, hr2, l2, hc2⟩ := hs_at HB.out HW.out hkb
      have hsame : r1.h = r2.h := by
        have q : (hms ra)[k]'(by rw [hms_len]; exact hka) = (hms rb)[k]'(by rw [hms_len]; exact hkb) := by simp only [HE.out.1]
        simp only [hms, List.getElem_map] at q
        rw [hr1, hr2]
        exact q
      have hpl : r1.h.us.length ≤ 9000000 := by rw [hr1]; exact HE.out.2 _ (List.getElem_mem hka)
      have HC1 := Shut.mk hc1
      have HC2 := Shut.mk hc2
      clear hr1 hr2 hc1 hc2
      obtain ⟨H, rl1, rc1⟩ := r1
      obtain ⟨H2, rl2, rc2⟩ := r2
      dsimp only at hsame hpl HC1 HC2
      subst hsame
      have HEQ := Shut.mk (fun (x : World) (hx : Below wr.heap.size wr x) => eqHost_same H rl1 rl2 rc1 rc2 x (HC1.out x hx).2.2.2 (HC2.out x hx).2.2.2 hpl)
      obtain ⟨hid, hup, hus⟩ := H
      dsimp only [hov] at *
      obtain ⟨m, hm⟩ : ∃ m, m = hus.length := ⟨_, rfl⟩
      rw [← hm] at HEQ HC1 HC2
      have k0 : (0 : Int) ≤ (k : Int) := by omega
      have k1 : (k : Int) < (n : Int) := by omega
      clear hm hpl
      have p0 : ∀ X : Grow wr, X.val.cell? ⟨b1, o1 + k * 3, none⟩ = some (.int .i64 hid) := fun X => (HC1.out X.val X.bel).1
      have p1 : ∀ X : Grow wr, X.val.cell? ⟨b1, o1 + k * 3 + 1, none⟩ = some (.bool hup) := fun X => (HC1.out X.val X.bel).2.1
      have p2 : ∀ X : Grow wr, X.val.cell? ⟨b1, o1 + k * 3 + 2, none⟩ = some (.slice rl1 m rc1) := fun X => (HC1.out X.val X.bel).2.2.1
      have q0 : ∀ X : Grow wr, X.val.cell? ⟨b2, o2 + k * 3, none⟩ = some (.int .i64 hid) := fun X => (HC2.out X.val X.bel).1
      have q1 : ∀ X : Grow wr, X.val.cell? ⟨b2, o2 + k * 3 + 1, none⟩ = some (.bool hup) := fun X => (HC2.out X.val X.bel).2.1
      have q2 : ∀ X : Grow wr, X.val.cell? ⟨b2, o2 + k * 3 + 2, none⟩ = some (.slice rl2 m rc2) := fun X => (HC2.out X.val X.bel).2.2.1
      have HKQ := Shut.mk (fun X => calls_grow (w := wr) (fun W' (hb : Below wr.heap.size wr W') => HEQ.out W' hb) X)
      have HGR : Shut (∀ X : Grow wr, Below w.heap.size w X.val) := ⟨fun X => HW.out.trans (X.bel.mono HW.out.size)⟩
      go_wp2_with fail
      refine wp_region_grow (by kernel_rfl) (by kernel_rfl) ?_
      repeat (go_big_quiet_step (first | (go_at_call 10; with_reducible exact HKQ.out _)))
      refine wpQuiet_nil ?_
      rintro _ ⟨X, rfl⟩
      clear p0 p1 p2 q0 q1 q2
      go_wp2_with fail
      go_roundw
      case rel => exact ⟨k + 1, by go_num, by omega, ⟨HGR.out X⟩⟩
      case measure => simp [intOf]; omega
    · obtain rfl : n = k := by omega
      go_wp2_with fail
      go_ret
      exact ⟨rfl, HW.out⟩
end Go.Proofs.Ytoaifodmjkhiiaa
/- PlM: Where units go, plain: loads, the order of hosts, the hosts of a group. -/
namespace Go.Proofs.Ytoaifodmjkhiiaa
set_option maxRecDepth 100000
open Go.RowKit

/-- A host's load, and its number. -/
def keyP (h : HM) : Nat × Int := (h.us.length, h.id)
def plLe (a b : Nat × Int) : Bool := decide (a.1 < b.1) || (a.1 == b.1 && decide (a.2 ≤ b.2))
theorem plLe_iff (a b : Nat × Int) : plLe a b = true ↔ a.1 < b.1 ∨ (a.1 = b.1 ∧ a.2 ≤ b.2) := by
  unfold plLe
  simp
def upPairs (hs : List HM) : List (Nat × Int) := (hs.filter fun h => h.up).map keyP
def ordP (hs : List HM) : List (Nat × Int) := (upPairs hs).mergeSort plLe
theorem ordP_up (hs : List HM) : (ordP hs).Pairwise fun a b => plLe a b = true :=
  List.pairwise_mergeSort (fun a b c h k => by rw [plLe_iff] at *; omega) (fun a b => by rw [Bool.or_eq_true, plLe_iff, plLe_iff]; omega) _
theorem ordP_perm (hs : List HM) : (ordP hs).Perm (upPairs hs) := List.mergeSort_perm _ _
theorem ordP_len (hs : List HM) : (ordP hs).length = (hs.filter fun h => h.up).length := by rw [(ordP_perm hs).length_eq]; simp [upPairs]
/-- Whoever puts them in order puts them so. -/
theorem ordP_of {hs : List HM} {L : List (Nat × Int)} (hp : L.Perm (upPairs hs)) (hu : L.Pairwise fun a b => plLe a b = true) : L = ordP hs :=
  List.Perm.eq_of_pairwise (le := fun a b => plLe a b = true) (fun a b _ _ h k => by
    rw [plLe_iff] at h k
    exact Prod.ext (by omega) (by omega)) hu (ordP_up hs) (hp.trans (ordP_perm hs).symm)
/-- The hosts of a group. -/
def plcX (hs : List HM) (n : Int) : List Int × Bool :=
  if 0 ≤ n ∧ n ≤ ((ordP hs).length : Int) then (((ordP hs).take n.toNat).map Prod.snd, true) else ([], false)
theorem plc_len (hs : List HM) (n : Int) : (plcX hs n).1.length ≤ hs.length := by
  unfold plcX
  split
  · have h1 := ordP_len hs
    have h2 := List.length_filter_le (fun h : HM => h.up) hs
    simp only [List.length_map, List.length_take]
    omega
  · exact Nat.zero_le _
end Go.Proofs.Ytoaifodmjkhiiaa
/- OrM: The order in which hosts take units, plain: an insertion of places, by load, then number, then place. -/
namespace Go.Proofs.Ytoaifodmjkhiiaa
set_option maxRecDepth 100000
open Go.RowKit

/-- One place ahead of another. -/
def lt3 (p : Nat → Nat × Int) (a b : Nat) : Prop := (p a).1 < (p b).1 ∨ ((p a).1 = (p b).1 ∧ ((p a).2 < (p b).2 ∨ ((p a).2 = (p b).2 ∧ a < b)))
/-- What the model asks. -/
def gt2 (p : Nat → Nat × Int) (a b : Nat) : Bool := decide ((p b).1 < (p a).1) || ((p a).1 == (p b).1 && decide ((p b).2 < (p a).2))
theorem gt2_iff (p : Nat → Nat × Int) (a b : Nat) : gt2 p a b = true ↔ (p b).1 < (p a).1 ∨ ((p a).1 = (p b).1 ∧ (p b).2 < (p a).2) := by
  unfold gt2
  simp
/-- Sorted, up to a place. -/
def Sd (p : Nat → Nat × Int) (L : List Nat) (i : Nat) : Prop := ∀ a b, a < b → b < i → lt3 p (L.getD a 0) (L.getD b 0)
/-- One is on its way, from place i to place k. -/
structure Mv (p : Nat → Nat × Int) (L : List Nat) (i k : Nat) : Prop where
  rest : ∀ a b, a < b → b ≤ i → a ≠ k → b ≠ k → lt3 p (L.getD a 0) (L.getD b 0)
  behind : ∀ b, k < b → b ≤ i → lt3 p (L.getD k 0) (L.getD b 0)
  last : ∀ a, a ≤ i → a ≠ k → L.getD a 0 < L.getD k 0
def swapL (L : List Nat) (k : Nat) : List Nat := (L.set k (L.getD (k - 1) 0)).set (k - 1) (L.getD k 0)
theorem swapL_len (L : List Nat) (k : Nat) : (swapL L k).length = L.length := by simp [swapL]
theorem swapL_at (L : List Nat) (k : Nat) (hk : 0 < k) (hl : k < L.length) (t : Nat) : (swapL L k).getD t 0 = if t = k - 1 then L.getD k 0 else if t = k then L.getD (k - 1) 0 else L.getD t 0 := by
  unfold swapL
  simp only [List.getD, List.getElem?_set, List.length_set]
  by_cases h1 : k - 1 = t
  · subst h1
    simp [show k - 1 < L.length by omega]
  · by_cases h2 : k = t
    · subst h2
      simp [hl, h1, show ¬ k = k - 1 by omega]
    · simp [h1, h2, Ne.symm h1, Ne.symm h2]
theorem swapL_perm (L : List Nat) (k : Nat) (hk : 0 < k) (hl : k < L.length) : (swapL L k).Perm L := by
  have e1 : L.getD (k - 1) 0 = L[k - 1] := by simp [List.getD, show k - 1 < L.length by omega]
  have e2 : L.getD k 0 = L[k] := by simp [List.getD, hl]
  have hL : L = L.take (k - 1) ++ L[k - 1] :: L[k] :: L.drop (k + 1) := by
    have q1 : L.drop (k - 1) = L[k - 1] :: L.drop k := by rw [List.drop_eq_getElem_cons (by omega)]; congr 1; congr 1; omega
    have q2 : L.drop k = L[k] :: L.drop (k + 1) := List.drop_eq_getElem_cons hl
    conv => lhs; rw [← List.take_append_drop (k - 1) L, q1, q2]
  have hS : swapL L k = L.take (k - 1) ++ L[k] :: L[k - 1] :: L.drop (k + 1) := by
    apply List.ext_getElem?
    intro t
    have lt : (L.take (k - 1)).length = k - 1 := by rw [List.length_take]; omega
    unfold swapL
    rw [e1, e2]
    simp only [List.getElem?_set, List.length_set]
    by_cases h5 : t < k - 1
    · rw [if_neg (by omega), if_neg (by omega), List.getElem?_append_left (by omega), List.getElem?_take, if_pos h5]
    · rw [List.getElem?_append_right (by omega), lt]
      by_cases h3 : t = k - 1
      · subst h3
        rw [if_pos rfl, if_pos (by omega), Nat.sub_self]
        rfl
      · rw [if_neg (by omega)]
        by_cases h4 : t = k
        · subst h4
          rw [if_pos rfl, if_pos hl, show t - (t - 1) = 1 by omega]
          rfl
        · rw [if_neg (by omega)]
          obtain ⟨z, hz⟩ : ∃ z, t - (k - 1) = z + 2 := ⟨t - (k - 1) - 2, by omega⟩
          rw [hz]
          simp only [List.getElem?_cons_succ, List.getElem?_drop]
          congr 1
          omega
  rw [hS]
  conv => rhs; rw [hL]
  exact List.Perm.append_left _ (List.Perm.swap _ _ _)
theorem Mv.swap {p : Nat → Nat × Int} {L : List Nat} {i k : Nat} (h : Mv p L i k) (hk : 0 < k) (hki : k ≤ i) (hl : i < L.length) (hg : gt2 p (L.getD (k - 1) 0) (L.getD k 0) = true) : Mv p (swapL L k) i (k - 1) := by
  have e := swapL_at L k hk (by omega)
  rw [gt2_iff] at hg
  refine ⟨fun a b hab hb ha9 hb9 => ?_, fun b hb hbi => ?_, fun a ha ha9 => ?_⟩
  · rw [e a, e b, if_neg ha9, if_neg hb9]
    by_cases h1 : a = k
    · subst h1
      rw [if_pos rfl, if_neg (by omega)]
      exact h.rest (a - 1) b (by omega) hb (by omega) (by omega)
    · rw [if_neg h1]
      by_cases h2 : b = k
      · subst h2
        rw [if_pos rfl]
        exact h.rest a (b - 1) (by omega) (by omega) (by omega) (by omega)
      · rw [if_neg h2]
        exact h.rest a b hab hb h1 h2
  · rw [e (k - 1), e b, if_pos rfl, if_neg (by omega)]
    by_cases h2 : b = k
    · subst h2
      rw [if_pos rfl]
      unfold lt3
      omega
    · rw [if_neg h2]
      exact h.behind b (by omega) hbi
  · rw [e (k - 1), e a, if_pos rfl, if_neg ha9]
    by_cases h2 : a = k
    · subst h2
      rw [if_pos rfl]
      exact h.last (a - 1) (by omega) (by omega)
    · rw [if_neg h2]
      exact h.last a ha h2
theorem lt3_trans {p : Nat → Nat × Int} {a b c : Nat} (h : lt3 p a b) (k : lt3 p b c) : lt3 p a c := by
  unfold lt3 at *
  omega
theorem Mv.stop {p : Nat → Nat × Int} {L : List Nat} {i k : Nat} (h : Mv p L i k) (hk : 0 < k) (hki : k ≤ i) (hg : gt2 p (L.getD (k - 1) 0) (L.getD k 0) = false) : Sd p L (i + 1) := by
  have hg2 : ¬ ((p (L.getD k 0)).1 < (p (L.getD (k - 1) 0)).1 ∨ ((p (L.getD (k - 1) 0)).1 = (p (L.getD k 0)).1 ∧ (p (L.getD k 0)).2 < (p (L.getD (k - 1) 0)).2)) := by rw [← gt2_iff, hg]; simp
  have h1 : lt3 p (L.getD (k - 1) 0) (L.getD k 0) := by
    have := h.last (k - 1) (by omega) (by omega)
    unfold lt3
    omega
  intro a b hab hb
  by_cases ha : a = k
  · subst ha
    exact h.behind b hab (by omega)
  · by_cases hb9 : b = k
    · subst hb9
      by_cases ha2 : a = b - 1
      · subst ha2; exact h1
      · exact lt3_trans (h.rest a (b - 1) (by omega) (by omega) ha (by omega)) h1
    · exact h.rest a b hab (by omega) ha hb9
theorem Mv.done {p : Nat → Nat × Int} {L : List Nat} {i : Nat} (h : Mv p L i 0) : Sd p L (i + 1) := fun a b hab hb => by
  by_cases ha : a = 0
  · subst ha; exact h.behind b hab (by omega)
  · exact h.rest a b hab (by omega) ha (by omega)
theorem Sd.quiet {p : Nat → Nat × Int} {L : List Nat} {i k : Nat} (h : Sd p L (i + 1)) (hk : 0 < k) (hki : k ≤ i) : gt2 p (L.getD (k - 1) 0) (L.getD k 0) = false := by
  have q := h (k - 1) k (by omega) (by omega)
  cases hg : gt2 p (L.getD (k - 1) 0) (L.getD k 0) with
  | false => rfl
  | true =>
    rw [gt2_iff] at hg
    unfold lt3 at q
    omega
/-- The places of hosts that are up. -/
def pk (hs : List HM) (i : Nat) : Nat × Int := keyP (hs.getD i default)
def upTo (hs : List HM) (k : Nat) : List Nat := (List.range k).filter fun i => (hs.getD i default).up
theorem upTo_step (hs : List HM) (k : Nat) : upTo hs (k + 1) = upTo hs k ++ if (hs.getD k default).up = true then [k] else [] := by
  unfold upTo
  rw [List.range_succ, List.filter_append]
  congr 1
  rw [List.filter_cons, List.filter_nil]
theorem upTo_lt (hs : List HM) (k : Nat) : ∀ x ∈ upTo hs k, x < k := fun x hx => by simpa using (List.mem_filter.1 hx).1
theorem upTo_up (hs : List HM) (k : Nat) : (upTo hs k).Pairwise (· < ·) := List.Pairwise.filter _ List.pairwise_lt_range
theorem upTo_len (hs : List HM) (k : Nat) : (upTo hs k).length ≤ k := by
  have := List.length_filter_le (fun i => (hs.getD i default).up) (List.range k)
  simpa [upTo] using this
/-- One sets out. -/
theorem mv_start {p : Nat → Nat × Int} {L U : List Nat} {i : Nat} (h : Sd p L i) (hp : L.Perm U) (hU : U.Pairwise (· < ·)) (hr : ∀ t, i ≤ t → L[t]? = U[t]?) (hi : i < L.length) : Mv p L i i := by
  refine ⟨fun a b hab hb ha9 hb9 => h a b hab (by omega), fun b hb hbi => by omega, fun a ha ha9 => ?_⟩
  have hd : L.drop i = U.drop i := by
    apply List.ext_getElem?
    intro t
    rw [List.getElem?_drop, List.getElem?_drop]
    exact hr _ (by omega)
  have ht : (L.take i).Perm (U.take i) := by
    have q : (L.take i ++ L.drop i).Perm (U.take i ++ U.drop i) := by rw [List.take_append_drop, List.take_append_drop]; exact hp
    rw [hd] at q
    exact (List.perm_append_right_iff _).1 q
  have hUi : i < U.length := by rw [← hp.length_eq]; exact hi
  have hLi : L.getD i 0 = U[i] := by
    have := hr i (Nat.le_refl _)
    rw [List.getD, this, List.getElem?_eq_getElem hUi]
    rfl
  have ha' : a < i := by omega
  have hLa : L.getD a 0 ∈ L.take i := by
    have e : L.getD a 0 = (L.take i)[a]'(by rw [List.length_take]; omega) := by rw [List.getElem_take]; simp [List.getD, show a < L.length by omega]
    rw [e]
    exact List.getElem_mem _
  have hm := ht.mem_iff.1 hLa
  obtain ⟨c, hc, e⟩ := List.getElem_of_mem hm
  rw [List.length_take] at hc
  rw [List.getElem_take] at e
  rw [hLi, ← e]
  exact List.pairwise_iff_getElem.1 hU c i (by omega) hUi (by omega)
/-- The places in their order. -/
def OrdI (hs : List HM) (L : List Nat) : Prop := Sd (pk hs) L L.length ∧ L.Perm (upTo hs hs.length)
theorem upTo_pairs (hs : List HM) : (upTo hs hs.length).map (pk hs) = upPairs hs := by
  have e : (List.range hs.length).map (fun i => hs.getD i default) = hs := by
    apply List.ext_getElem
    · simp
    · intro i h1 h2
      simp [List.getD, h2]
  unfold upPairs
  conv => rhs; rw [← e]
  rw [List.filter_map, List.map_map]
  rfl
end Go.Proofs.Ytoaifodmjkhiiaa
/- OwS: A row of one's own that is made longer, beside stretches of memory. -/
namespace Go.Proofs.Ytoaifodmjkhiiaa
set_option maxRecDepth 100000
open Go.RowKit

structure OwS (w0 W : World) (S : List Str) (ty sz : Nat) (v : Value) (n : Nat) (L : List Value) : Prop where
  sl : SL w0 W S
  own : W.ownsRow w0.heap.size ty sz v n L
  far : ∀ q, v.ownBlock = some q → ∀ s ∈ S, s.hi ≤ q ∨ q < s.lo
section
variable {w0 W W' : World} {S : List Str} {s : Str} {ty sz n : Nat} {v : Value} {L : List Value}
theorem own_row_slice (h : W.ownsRow w0.heap.size ty sz v n L) : ∃ a c, v = .slice a n c := by
  rcases h.2 with ⟨rfl, h0⟩ | ⟨g, cap, cur, e, _⟩
  · exact ⟨none, 0, by rw [h0]⟩
  · exact ⟨_, _, e⟩
theorem OwS.new (h : SL w0 W S) : OwS w0 (W.alloc (.cells #[] ty)) S ty sz (.slice (some ⟨W.heap.size, 0, none⟩) 0 0) 0 [] := by
  refine ⟨h.below ((Below.refl _ _).alloc (Nat.le_refl _) _), World.ownsRow_made (e := ty) (size := sz) (base := w0.heap.size) W #[] 0 h.bel.size (by decide) (by simp), fun q e s hs => ?_⟩
  have eq : W.heap.size = q := by simpa [Value.ownBlock] using e
  have := (h.is s hs).2.2.2
  omega
theorem OwS.nil (h : SL w0 W S) : OwS w0 W S ty sz (.slice none 0 0) 0 [] := ⟨h, World.ownsRow_nil _ _ _ _, fun q e => by cases e⟩
theorem OwS.below (h : OwS w0 W S ty sz v n L) (hb : Below W.heap.size W W') : OwS w0 W' S ty sz v n L :=
  ⟨h.sl.below hb, h.own.kept (row := none) ⟨hb.os, hb.tape, hb.output, hb.size, fun k hk _ => hb.block k hk⟩ (Classical.em _), h.far⟩
theorem OwS.alloc (h : OwS w0 W S ty sz v n L) (o : Obj) : OwS w0 (W.alloc o) S ty sz v n L := h.below ((Below.refl _ _).alloc (Nat.le_refl _) o)
theorem OwS.lt (h : OwS w0 W S ty sz v n L) (q : Nat) (e : v.ownBlock = some q) : w0.heap.size ≤ q ∧ q < W.heap.size := h.own.lt q e
theorem OwS.add (h : OwS w0 W S ty sz v n L) (hb : Below W.heap.size W W') (hp : s.p W') (hl : s.Loc) (h1 : W.heap.size ≤ s.lo) (h2 : s.hi ≤ W'.heap.size) : OwS w0 W' (s :: S) ty sz v n L := by
  have k := h.below hb
  refine ⟨h.sl.add hb hp hl h1 h2, k.own, fun q e x hx => ?_⟩
  rcases List.mem_cons.1 hx with rfl | hx
  · exact .inr (by have := (h.lt q e).2; omega)
  · exact h.far q e x hx
theorem OwS.box (h : OwS w0 W S ty sz v n L) (cs : Array Value) (t : TypeId) : OwS w0 (W.alloc (.cells cs t)) (bxS W.heap.size cs.toList :: S) ty sz v n L :=
  h.add ((Below.refl _ _).alloc (Nat.le_refl _) _) (wcells_new W cs t) (bxS.loc _ _) (Nat.le_refl _) (by simp)
theorem OwS.tail (h : OwS w0 W (s :: S) ty sz v n L) : OwS w0 W S ty sz v n L := ⟨h.sl.tail, h.own, fun q e x hx => h.far q e x (List.mem_cons_of_mem _ hx)⟩
theorem OwS.put (h : OwS w0 W S ty sz v n L) (i : Nat) {b : Nat} {X : List Value} (hs : S[i]? = some (bxS b X)) (j : Nat) (x : Value) (hj : j < X.length) : OwS w0 (W.setCell ⟨b, j, none⟩ x) (S.set i (bxS b (X.set j x))) ty sz v n L := by
  have hm := List.mem_of_getElem? hs
  have hne : ∀ q, v.ownBlock = some q → q ≠ b := fun q e hq => by
    have := h.far q e _ hm
    dsimp only [bxS] at this
    omega
  refine ⟨h.sl.put i hs j x hj, h.own.kept (gb_set' W b j x) ?_, fun q e s hq => ?_⟩
  · cases e : v.ownBlock with
    | none => exact .inl rfl
    | some k => exact .inr fun e2 => hne k e (by cases e2; rfl)
  · obtain ⟨k, hk, rfl⟩ := List.getElem_of_mem hq
    rw [List.length_set] at hk
    by_cases ek : k = i
    · subst ek
      rw [List.getElem_set_self]
      have := h.far q e _ hm
      exact this
    · rw [List.getElem_set_ne (Ne.symm ek)]
      exact h.far q e _ (List.getElem_mem hk)
/-- More is put behind it. -/
theorem OwS.more {Wa : World} {v' : Value} {m : Nat} {L' : List Value} (h : OwS w0 W S ty sz v n L) (hb : Below W.heap.size W Wa) (ho : W'.ownsRow w0.heap.size ty sz v' m L') (hg : Wa.grownBy W' v.ownBlock) (hat : v'.ownBlock = v.ownBlock ∨ v'.ownBlock = some Wa.heap.size) : OwS w0 W' S ty sz v' m L' := by
  have k := h.below hb
  refine ⟨k.sl.grown hg fun q e => ⟨(k.lt q e).1, k.far q e⟩, ho, fun q e s hs => ?_⟩
  rcases hat with e2 | e2
  · exact h.far q (by rw [← e2]; exact e) s hs
  · rw [e2] at e
    have eq : Wa.heap.size = q := by simpa using e
    have := (k.sl.is s hs).2.2.2
    omega
theorem OwS.frw (h : OwS w0 W S ty sz v n L) : ∃ a c, v = .slice a n c ∧ FRw W a L w0.heap.size W.heap.size ∧ n ≤ c := by
  obtain ⟨a, c, rfl⟩ := own_row_slice h.own
  exact ⟨a, c, rfl, (FRw.of_own h.own).1, (FRw.of_own h.own).2⟩
theorem OwS.row (h : OwS w0 W S ty sz v n L) : ∃ a c, v = .slice a n c ∧ CRow W a L ∧ n ≤ c := by
  obtain ⟨a, c, e, h1, h2⟩ := h.frw
  exact ⟨a, c, e, h1.crow, h2⟩
end
end Go.Proofs.Ytoaifodmjkhiiaa
/- GrwB: A region that draws its order, some of whose operations make memory: what answers one value in every later world is taken first, calls that only make memory too. The way of the proof is that of the library's Derived.OrdersHeld, which is imported; the class of worlds is ours. -/
namespace Go.Proofs.Ytoaifodmjkhiiaa
set_option maxRecDepth 100000
open Go.RowKit

/-- A later world: more memory, what was there untouched. -/
def Later (w w' : World) : Prop := Below w.heap.size w w'
theorem Later.refl (w : World) : Later w w := Below.refl _ _
theorem Later.trans {a b c : World} (h : Later a b) (g : Later b c) : Later a c := Below.trans h (Below.mono g (Below.size h))
section
variable {P : Program} {ops : Array Oper} {Q : Exit → Act → World → Prop} {md : Region.Mode}
/-- Whatever order is picked from here on, in whatever later world. -/
def wpL (P : Program) (md : Region.Mode) (ops : Array Oper) (Q : Exit → Act → World → Prop) : Nat → Array Bool → Act → World → Prop
  | 0, l, a, w => Region.ready md ops l = [] ∧ ∀ x, Later w x → Q .normal a x
  | n + 1, l, a, w => ∀ x, Later w x → (Region.ready md ops l = [] → Q .normal a x) ∧
      ∀ i ∈ Region.ready md ops l, wpOp P ops Q i (fun a' y => Later x y ∧ wpL P md ops Q n (l.setIfInBounds i true) a' y) a x
theorem wpL_later : ∀ (n : Nat) (l : Array Bool) (a : Act) (w y : World), Later w y → wpL P md ops Q n l a w → wpL P md ops Q n l a y
  | 0, _, _, _, _, hy, h => ⟨h.1, fun x hx => h.2 x (hy.trans hx)⟩
  | _ + 1, _, _, _, _, hy, h => fun x hx => h x (hy.trans hx)
theorem wpAny_of_L : ∀ (n : Nat) (l : Array Bool) (a : Act) (w : World), wpL P md ops Q n l a w → wpAny P md ops Q n l a w
  | 0, _, _, w, h => ⟨h.1, h.2 w (Later.refl w)⟩
  | n + 1, _, _, w, h => ⟨(h w (Later.refl w)).1, fun i hi => wpOp_mono (fun a' y hh => wpAny_of_L n _ a' y hh.2) ((h w (Later.refl w)).2 i hi)⟩
/-- One value, in every later world; a call may make memory. -/
def YL (P : Program) (ops : Array Oper) (o : Oper) (v : Value) (a : Act) (w : World) : Prop :=
  (Region.wanted o (yielded ops a.tmps) = true ∧ ∀ x, Later w x → o.quietAt P a (Later x) x v) ∨ (Region.wanted o (yielded ops a.tmps) = false ∧ v = undef)
theorem YL.later {o : Oper} {v : Value} {a : Act} {w y : World} (h : YL P ops o v a w) (hy : Later w y) : YL P ops o v a y :=
  h.imp (fun q => ⟨q.1, fun x hx => q.2 x (hy.trans hx)⟩) id
theorem YL.same {o : Oper} {v : Value} {a b : Act} {w : World} (h : YL P ops o v a w) (he : execOp b.eval o = execOp a.eval o) (hw : Region.wanted o (yielded ops b.tmps) = Region.wanted o (yielded ops a.tmps)) : YL P ops o v b w := by
  unfold YL Oper.quietAt at *
  rw [he, hw]
  exact h
theorem YL.op {i : Nat} {o : Oper} {v : Value} {a : Act} {w x : World} {K : Act → World → Prop} (hi : ops[i]? = some o) (h : YL P ops o v a w) (hx : Later w x) (hk : ∀ y, Later x y → K (a.put o.dst v) y) : wpOp P ops Q i K a x := by
  unfold wpOp
  rw [hi]
  dsimp only
  rcases h with ⟨hw, hq⟩ | ⟨hw, hv⟩
  · rw [if_pos hw]
    refine Or.inl ?_
    have q := hq x hx
    unfold Oper.quietAt at q
    unfold Oper.wp
    revert q
    cases (execOp a.eval o).run P x with
    | halt _ _ => exact False.elim
    | ok r y =>
      cases r with
      | value u => rintro ⟨rfl, rfl⟩; exact hk _ (Later.refl _)
      | skip => rintro ⟨rfl, rfl⟩; exact hk _ (Later.refl _)
      | enter f args => rintro ⟨rfl, hc⟩; exact hc.mono (by rintro _ z ⟨rfl, hz⟩; exact hk _ hz)
      | _ => exact False.elim
  · rw [if_neg (by rw [hw]; exact Bool.false_ne_true), ← hv]
    exact hk _ (Later.refl _)
/-- What an operation may do to the frame: its own slot, or a call that is put off. -/
def Fr (d : Option Tmp) (a b : Act) : Prop := ∃ u, b = a.put d u ∨ ∃ f, b = { a with defers := f :: a.defers }.put d u
theorem op_frame {j : Nat} {oj : Oper} {K : Act → World → Prop} {a : Act} {x : World} (hj : ops[j]? = some oj) (h : wpOp P ops Q j K a x) : wpOp P ops Q j (fun b y => Fr oj.dst a b ∧ K b y) a x := by
  unfold wpOp at h ⊢
  rw [hj] at h ⊢
  dsimp only at h ⊢
  split
  · rename_i hw
    rw [if_pos hw] at h
    refine h.imp_left fun q => ?_
    unfold Oper.wp at q ⊢
    revert q
    cases (execOp a.eval oj).run P x with
    | halt r y => cases r <;> exact id
    | ok r y =>
      cases r with
      | value u => exact fun q => ⟨⟨u, .inl rfl⟩, q⟩
      | skip => exact fun q => ⟨⟨undef, .inl rfl⟩, q⟩
      | defer f => exact fun q => ⟨⟨undef, .inr ⟨f, rfl⟩⟩, q⟩
      | enter f args => exact fun q => Calls.mono q fun e z hz => by cases e <;> first | exact ⟨⟨_, .inl rfl⟩, hz⟩ | exact hz
      | row r args => exact fun q => Rows.mono q fun u z hz => ⟨⟨u, .inl rfl⟩, hz⟩
      | _ => exact id
  · rename_i hw
    rw [if_neg hw] at h
    exact ⟨⟨undef, .inl rfl⟩, h⟩
/-- An operation beside another that has its value already: the library's law for no world at all, and what the frame may be behind it. -/
theorem op_beside {j : Nat} {oi oj : Oper} {v : Value} {w : World} (hj : ops[j]? = some oj) (hap : oi.apart ops oj = true) (hsi : ∀ cs b, oi.op ≠ .select cs b) (hsj : ∀ cs b, oj.op ≠ .select cs b)
    (hQ : ∀ c a w, Q (.panic c) (a.put oi.dst v) w → Q (.panic c) a w) {K : Act → World → Prop} {a : Act} {x : World} (hy : YL P ops oi v a w) (h : wpOp P ops Q j K (a.put oi.dst v) x) :
    wpOp P ops Q j (fun a' y => YL P ops oi v a' w ∧ K (a'.put oi.dst v) y) a x := by
  have h3 := (Oper.apart_spec hap).2.2
  refine wpOp_mono ?_ (op_frame hj (wpOp_putIf (S := fun _ => False) hj hap hsi hsj hQ (hy.imp (fun q => ⟨q.1, fun _ hf => hf.elim⟩) id) h))
  rintro b y ⟨⟨u, rfl | ⟨f, rfl⟩⟩, -, hk⟩
  · exact ⟨hy.same (execOp_put oi hsi a oj.dst u h3) (wanted_put oi a oj.dst u h3), hk⟩
  · have q : YL P ops oi v { a with defers := f :: a.defers } w := hy.same rfl rfl
    exact ⟨q.same (execOp_put oi hsi _ oj.dst u h3) (wanted_put oi _ oj.dst u h3), hk⟩
/-- Who may come up waits for nobody who has not come up. -/
theorem ready_free {l : Array Bool} {i j : Nat} {oj : Oper} (hi : i ∈ Region.ready md ops l) (hj : j ∈ Region.ready md ops l) (ho : ops[j]? = some oj) : ∀ e ∈ oj.after, Region.binds md e = true → e.on ≠ i := by
  obtain ⟨-, o', ho', hall⟩ := mem_ready.1 hj
  obtain rfl : oj = o' := Option.some.inj (ho.symm.trans ho')
  rintro e he hb rfl
  have q := hall e he hb
  have z := (mem_ready.1 hi).1
  grind
theorem wpL_first {i : Nat} {oi : Oper} {v : Value} (hi : ops[i]? = some oi) (hsel : ∀ (j : Nat) (o : Oper) cs b, ops[j]? = some o → o.op ≠ .select cs b) (hQ : ∀ c a w, Q (.panic c) (a.put oi.dst v) w → Q (.panic c) a w) :
    ∀ (n : Nat) (l : Array Bool) (a : Act) (w : World), (∀ j oj, ops[j]? = some oj → j ≠ i → l.getD j true = false → (∀ e ∈ oj.after, Region.binds md e = true → e.on ≠ i) → oi.apart ops oj = true) →
      i ∈ Region.ready md ops l → YL P ops oi v a w → wpL P md ops Q n (l.setIfInBounds i true) (a.put oi.dst v) w → wpL P md ops Q (n + 1) l a w := by
  intro n
  induction n with
  | zero =>
    intro l a w _ hr hy H x hx
    refine ⟨fun h => (by rw [h] at hr; cases hr), fun j hj => ?_⟩
    by_cases hji : j = i
    · subst hji
      exact hy.op hi hx fun y hxy => ⟨hxy, wpL_later 0 _ _ _ _ (hx.trans hxy) H⟩
    · have q := ready_mono hj hji
      rw [H.1] at q
      cases q
  | succ n ih =>
    intro l a w hfree hr hy H x hx
    refine ⟨fun h => (by rw [h] at hr; cases hr), fun j hj => ?_⟩
    by_cases hji : j = i
    · subst hji
      exact hy.op hi hx fun y hxy => ⟨hxy, wpL_later (n + 1) _ _ _ _ (hx.trans hxy) H⟩
    · obtain ⟨hun, oj, hoj, -⟩ := mem_ready.1 hj
      have q := op_beside hoj (hfree j oj hoj hji hun (ready_free hr hj hoj)) (fun cs b => hsel i oi cs b hi) (fun cs b => hsel j oj cs b hoj) hQ hy ((H x hx).2 j (ready_mono hj hji))
      refine wpOp_mono (fun b y hb => ⟨hb.2.1, ih (l.setIfInBounds j true) b y (fun k ok hk hki hku hno => hfree k ok hk hki ?_ hno) (ready_mono hr (Ne.symm hji)) (hb.1.later (hx.trans hb.2.1)) ?_⟩) q
      · by_cases hjk : j = k
        · subst hjk; exact hun
        · rw [getD_set_ne true hjk] at hku; exact hku
      · rw [Array.setIfInBounds_comm _ _ hji]
        exact hb.2.2
theorem at_drop {L r : List Oper} {i : Nat} {o : Oper} (h : L.drop i = o :: r) : L.toArray[i]? = some o := by
  have q : (L.drop i)[0]? = some o := by rw [h]; rfl
  simpa using q
/-- Take number i: a value. -/
theorem wpL_val {L r : List Oper} {i : Nat} {oi : Oper} {v : Value} {n : Nat} {l : Array Bool} {a : Act} {w : World} (hi : L.drop i = oi :: r) (hs : Region.noSelect L.toArray = true) (hf : Region.free md L.toArray l i = true) (hr : (Region.ready md L.toArray l).contains i = true)
    (hQ : ∀ c a w, Q (.panic c) (a.put oi.dst v) w → Q (.panic c) a w) (hw : Region.wanted oi (yielded L.toArray a.tmps) = true) (hy : ∀ x, Later w x → (execOp a.eval oi).run P x = .ok (.value v) x)
    (h : wpL P md L.toArray Q n (l.setIfInBounds i true) (a.put oi.dst v) w) : wpL P md L.toArray Q (n + 1) l a w :=
  wpL_first (at_drop hi) (Region.noSelect_spec hs) hQ n l a w (Region.free_spec (at_drop hi) hf) (by simpa using hr) (Or.inl ⟨hw, fun x hx => by unfold Oper.quietAt; rw [hy x hx]; exact ⟨rfl, rfl⟩⟩) h
/-- Take number i: a call. -/
theorem wpL_call {L r : List Oper} {i : Nat} {oi : Oper} {v : Value} {f : FuncId} {args : Array Value} {n : Nat} {l : Array Bool} {a : Act} {w : World} (hi : L.drop i = oi :: r) (hs : Region.noSelect L.toArray = true) (hf : Region.free md L.toArray l i = true) (hr : (Region.ready md L.toArray l).contains i = true)
    (hQ : ∀ c a w, Q (.panic c) (a.put oi.dst v) w → Q (.panic c) a w) (hw : Region.wanted oi (yielded L.toArray a.tmps) = true) (hy : ∀ x, Later w x → (execOp a.eval oi).run P x = .ok (.enter f args) x)
    (hc : ∀ x, Later w x → Calls P f args x fun e y => e = .returned v ∧ Below x.heap.size x y)
    (h : wpL P md L.toArray Q n (l.setIfInBounds i true) (a.put oi.dst v) w) : wpL P md L.toArray Q (n + 1) l a w :=
  wpL_first (at_drop hi) (Region.noSelect_spec hs) hQ n l a w (Region.free_spec (at_drop hi) hf) (by simpa using hr) (Or.inl ⟨hw, fun x hx => by unfold Oper.quietAt; rw [hy x hx]; exact ⟨rfl, hc x hx⟩⟩) h
/-- One alone may come up: it is carried out in a later world. -/
theorem wpL_one {L r : List Oper} {i : Nat} {oi : Oper} {n : Nat} {l : Array Bool} {a : Act} {w : World} (hr : Region.ready md L.toArray l = [i]) (hi : L.drop i = oi :: r) (hw : Region.wanted oi (yielded L.toArray a.tmps) = true)
    (h : ∀ x, Later w x → ∃ (v : Value) (y : World), (execOp a.eval oi).run P x = .ok (.value v) y ∧ Later x y ∧ wpL P md L.toArray Q n (l.setIfInBounds i true) (a.put oi.dst v) y) : wpL P md L.toArray Q (n + 1) l a w := by
  intro x hx
  rw [hr]
  refine ⟨fun h => (by cases h), fun j hj => ?_⟩
  rw [List.mem_singleton] at hj
  subst hj
  obtain ⟨v, y, h1, h2, h3⟩ := h x hx
  unfold wpOp
  rw [at_drop hi]
  dsimp only
  rw [if_pos hw]
  refine Or.inl ?_
  unfold Oper.wp
  rw [h1]
  exact ⟨h2, h3⟩
theorem wpL_done {l : Array Bool} {a : Act} {w : World} (hr : Region.ready md ops l = []) (h : ∀ x, Later w x → Q .normal a x) : ∀ n, wpL P md ops Q n l a w
  | 0 => ⟨hr, h⟩
  | _ + 1 => fun x hx => ⟨fun _ => h x hx, by rw [hr]; simp⟩
theorem wp_region_later {id : Nat} {a : Act} {w : World} (hm : P.follows .mixedOrders = true) (h : wpL P .any ops Q ops.size (Array.replicate ops.size false) a w.drew) : (Code.region id ops true).wp P Q a w :=
  wp_region_any hm (wpAny_of_L _ _ _ _ h)
end
section
variable {P : Program} {Q : Exit → Act → World → Prop} {md : Region.Mode}
/-- One alone may come up, and its call panics. -/
theorem wpL_panics {L r : List Oper} {i : Nat} {oi : Oper} {f : FuncId} {args : Array Value} {chain : List PanicEntry} {n : Nat} {l : Array Bool} {a : Act} {w : World} (hr : Region.ready md L.toArray l = [i]) (hi : L.drop i = oi :: r) (hw : Region.wanted oi (yielded L.toArray a.tmps) = true)
    (hy : ∀ x, Later w x → (execOp a.eval oi).run P x = .ok (.enter f args) x) (hc : ∀ x, Later w x → Calls P f args x fun e y => e = .panicked chain ∧ Q (.panic chain) a y) : wpL P md L.toArray Q (n + 1) l a w := by
  intro x hx
  rw [hr]
  refine ⟨fun h => (by cases h), fun j hj => ?_⟩
  rw [List.mem_singleton] at hj
  subst hj
  unfold wpOp
  rw [at_drop hi]
  dsimp only
  rw [if_pos hw]
  refine Or.inl ?_
  unfold Oper.wp
  rw [hy x hx]
  exact (hc x hx).mono (by rintro e y ⟨rfl, hq⟩; exact hq)
end
section
variable {P : Program} {Q : Exit → Act → World → Prop} {md : Region.Mode}
/-- Take number i: it is not wanted. -/
theorem wpL_skip {L r : List Oper} {i : Nat} {oi : Oper} {n : Nat} {l : Array Bool} {a : Act} {w : World} (hi : L.drop i = oi :: r) (hs : Region.noSelect L.toArray = true) (hf : Region.free md L.toArray l i = true) (hr : (Region.ready md L.toArray l).contains i = true)
    (hQ : ∀ c a w, Q (.panic c) (a.put oi.dst undef) w → Q (.panic c) a w) (hw : Region.wanted oi (yielded L.toArray a.tmps) = false)
    (h : wpL P md L.toArray Q n (l.setIfInBounds i true) (a.put oi.dst undef) w) : wpL P md L.toArray Q (n + 1) l a w :=
  wpL_first (at_drop hi) (Region.noSelect_spec hs) hQ n l a w (Region.free_spec (at_drop hi) hf) (by simpa using hr) (Or.inr ⟨hw, rfl⟩) h
end
end Go.Proofs.Ytoaifodmjkhiiaa
/- GrwC: A region that draws its order and ends in stores: all that comes ahead of its last operations is taken as in a region that only makes memory; then the last ones, in whatever order. -/
namespace Go.Proofs.Ytoaifodmjkhiiaa
set_option maxRecDepth 100000
open Go.RowKit
section
variable {P : Program} {ops : Array Oper} {Q : Exit → Act → World → Prop} {md : Region.Mode} {m : Nat}
/-- Only operations from number m on are left. -/
def tailed (m : Nat) (ops : Array Oper) (l : Array Bool) : Bool := (List.range m).all fun j => l.getD j true || decide (ops.size ≤ j)
theorem tailed_spec {l : Array Bool} (h : tailed m ops l = true) {j : Nat} (hj : l.getD j true = false) (hs : j < ops.size) : m ≤ j := by
  refine Nat.le_of_not_lt fun hlt => ?_
  have := List.all_eq_true.1 h j (by simpa using hlt)
  rw [hj, Bool.false_or, decide_eq_true_eq] at this
  omega
/-- Whatever order is picked from here on, in whatever later world, until only the last ones are left. -/
def wpK (P : Program) (md : Region.Mode) (ops : Array Oper) (Q : Exit → Act → World → Prop) (m : Nat) : Nat → Array Bool → Act → World → Prop
  | 0, l, a, w => ∀ x, Later w x → wpAny P md ops Q 0 l a x
  | n + 1, l, a, w => (tailed m ops l = true ∧ ∀ x, Later w x → wpAny P md ops Q (n + 1) l a x) ∨ (∀ x, Later w x → (Region.ready md ops l = [] → Q .normal a x) ∧
      ∀ i ∈ Region.ready md ops l, wpOp P ops Q i (fun a' y => Later x y ∧ wpK P md ops Q m n (l.setIfInBounds i true) a' y) a x)
theorem wpK_later : ∀ (n : Nat) (l : Array Bool) (a : Act) (w y : World), Later w y → wpK P md ops Q m n l a w → wpK P md ops Q m n l a y
  | 0, _, _, _, _, hy, h => fun x hx => h x (hy.trans hx)
  | _ + 1, _, _, _, _, hy, h => h.imp (fun q => ⟨q.1, fun x hx => q.2 x (hy.trans hx)⟩) (fun q x hx => q x (hy.trans hx))
theorem wpAny_of_K : ∀ (n : Nat) (l : Array Bool) (a : Act) (w : World), wpK P md ops Q m n l a w → wpAny P md ops Q n l a w
  | 0, _, _, w, h => h w (Later.refl w)
  | n + 1, _, _, w, h => by
    rcases h with h | h
    · exact h.2 w (Later.refl w)
    · exact ⟨(h w (Later.refl w)).1, fun i hi => wpOp_mono (fun a' y hh => wpAny_of_K n _ a' y hh.2) ((h w (Later.refl w)).2 i hi)⟩
/-- Those that wait for number i, or for one of them. -/
def clo (md : Region.Mode) (ops : Array Oper) (l : Array Bool) (i : Nat) : List Nat := (List.range ops.size).foldl (fun acc f => if !(l.getD f true) && (((ops[f]?).map fun o => o.after.any fun e => Region.binds md e && ((e.on == i) || acc.contains e.on)) == some true) then f :: acc else acc) []
/-- The last ones that are left wait for number i. -/
def waits (md : Region.Mode) (m : Nat) (ops : Array Oper) (l : Array Bool) (i : Nat) (C : List Nat) : Bool :=
  (C.all fun c => !(l.getD c true) && (((ops[c]?).map fun o => o.after.any fun e => Region.binds md e && ((e.on == i) || C.contains e.on)) == some true)) && ((List.range ops.size).all fun f => decide (f < m) || l.getD f true || C.contains f)
theorem getD_clash {l : Array Bool} {k : Nat} (h1 : l.getD k true = false) (h2 : l.getD k false = true) : False := by
  unfold Array.getD at h1 h2
  split at h1
  · rename_i h
    rw [dif_pos h] at h2
    rw [h1] at h2
    cases h2
  · cases h1
theorem waits_spec {l : Array Bool} {i : Nat} {C : List Nat} (h : waits md m ops l i C = true) (hi : l.getD i true = false) : ∀ c ∈ C, c ∉ Region.ready md ops l := by
  unfold waits at h
  rw [Bool.and_eq_true] at h
  intro c hc hr
  have h1 := List.all_eq_true.1 h.1 c hc
  rw [Bool.and_eq_true] at h1
  obtain ⟨-, o, ho, hall⟩ := mem_ready.1 hr
  rw [ho] at h1
  simp only [Option.map_some, beq_iff_eq, Option.some.injEq] at h1
  have h2 := h1.2
  rw [Array.any_eq_true'] at h2
  obtain ⟨e, he, q⟩ := h2
  rw [Bool.and_eq_true, Bool.or_eq_true] at q
  have hd := hall e he q.1
  rcases q.2 with q2 | q2
  · rw [beq_iff_eq] at q2
    rw [q2] at hd
    exact getD_clash hi hd
  · have hm : e.on ∈ C := by simpa using q2
    have h3 := List.all_eq_true.1 h.1 _ hm
    rw [Bool.and_eq_true, Bool.not_eq_true'] at h3
    exact getD_clash h3.1 hd
theorem waits_last {l : Array Bool} {i f : Nat} {C : List Nat} (h : waits md m ops l i C = true) (hf : m ≤ f) (hu : l.getD f true = false) (hs : f < ops.size) : f ∈ C := by
  unfold waits at h
  rw [Bool.and_eq_true] at h
  have := List.all_eq_true.1 h.2 f (by simpa using hs)
  rw [hu, Bool.or_false, Bool.or_eq_true, decide_eq_true_eq] at this
  rcases this with q | q
  · omega
  · simpa using q
theorem waits_step {l : Array Bool} {i j : Nat} {C : List Nat} (h : waits md m ops l i C = true) (hj : j ∉ C) : waits md m ops (l.setIfInBounds j true) i C = true := by
  unfold waits at h ⊢
  rw [Bool.and_eq_true] at h ⊢
  refine ⟨List.all_eq_true.2 fun c hc => ?_, List.all_eq_true.2 fun f hf => ?_⟩
  · have h1 := List.all_eq_true.1 h.1 c hc
    have hcj : j ≠ c := fun e => hj (e ▸ hc)
    rw [getD_set_ne true hcj]
    exact h1
  · have h1 := List.all_eq_true.1 h.2 f hf
    by_cases e : j = f
    · subst e
      have : (l.setIfInBounds j true).getD j true = true := by
        simp only [Array.getD]
        split
        · simp
        · rfl
      rw [this]
      simp
    · rw [getD_set_ne true e]
      exact h1
theorem wpK_first {i : Nat} {oi : Oper} {v : Value} {C : List Nat} (hi : ops[i]? = some oi) (hsel : ∀ (j : Nat) (o : Oper) cs b, ops[j]? = some o → o.op ≠ .select cs b) (hQ : ∀ c a w, Q (.panic c) (a.put oi.dst v) w → Q (.panic c) a w) :
    ∀ (n : Nat) (l : Array Bool) (a : Act) (w : World), waits md m ops l i C = true → (∀ j oj, ops[j]? = some oj → j ≠ i → l.getD j true = false → (∀ e ∈ oj.after, Region.binds md e = true → e.on ≠ i) → oi.apart ops oj = true) →
      i ∈ Region.ready md ops l → YL P ops oi v a w → wpK P md ops Q m n (l.setIfInBounds i true) (a.put oi.dst v) w → wpK P md ops Q m (n + 1) l a w := by
  intro n
  induction n with
  | zero =>
    intro l a w _ _ hr hy H
    refine .inr fun x hx => ⟨fun h => (by rw [h] at hr; cases hr), fun j hj => ?_⟩
    by_cases hji : j = i
    · subst hji
      exact hy.op hi hx fun y hxy => ⟨hxy, wpK_later 0 _ _ _ _ (hx.trans hxy) H⟩
    · have q := ready_mono hj hji
      rw [(H w (Later.refl w)).1] at q
      cases q
  | succ n ih =>
    intro l a w hwt hfree hr hy H
    refine .inr fun x hx => ⟨fun h => (by rw [h] at hr; cases hr), fun j hj => ?_⟩
    by_cases hji : j = i
    · subst hji
      exact hy.op hi hx fun y hxy => ⟨hxy, wpK_later (n + 1) _ _ _ _ (hx.trans hxy) H⟩
    · obtain ⟨hun, oj, hoj, -⟩ := mem_ready.1 hj
      have hjC : j ∉ C := fun hc => waits_spec hwt (mem_ready.1 hr).1 j hc hj
      rcases H with H | H
      · have hju : (l.setIfInBounds i true).getD j true = false := by rw [getD_set_ne true (Ne.symm hji)]; exact hun
        have hjs := (Array.getElem?_eq_some_iff.1 hoj).1
        have hjm := tailed_spec H.1 hju hjs
        exact absurd (waits_last hwt hjm hun hjs) hjC
      · have q := op_beside hoj (hfree j oj hoj hji hun (ready_free hr hj hoj)) (fun cs b => hsel i oi cs b hi) (fun cs b => hsel j oj cs b hoj) hQ hy ((H x hx).2 j (ready_mono hj hji))
        refine wpOp_mono (fun b y hb => ⟨hb.2.1, ih (l.setIfInBounds j true) b y (waits_step hwt hjC) (fun k ok hk hki hku hno => hfree k ok hk hki ?_ hno) (ready_mono hr (Ne.symm hji)) (hb.1.later (hx.trans hb.2.1)) ?_⟩) q
        · by_cases hjk : j = k
          · subst hjk; exact hun
          · rw [getD_set_ne true hjk] at hku; exact hku
        · rw [Array.setIfInBounds_comm _ _ hji]
          exact hb.2.2
theorem wpK_tail {l : Array Bool} {a : Act} {w : World} (ht : tailed m ops l = true) : ∀ {n : Nat}, (∀ x, Later w x → wpAny P md ops Q n l a x) → wpK P md ops Q m n l a w
  | 0, h => h
  | _ + 1, h => .inl ⟨ht, h⟩
theorem wpK_done {l : Array Bool} {a : Act} {w : World} (hr : Region.ready md ops l = []) (h : ∀ x, Later w x → Q .normal a x) : ∀ n, wpK P md ops Q m n l a w
  | 0 => fun x hx => ⟨hr, h x hx⟩
  | _ + 1 => .inr fun x hx => ⟨fun _ => h x hx, by rw [hr]; simp⟩
theorem wp_region_tail {id : Nat} {a : Act} {w : World} (m : Nat) (hm : P.follows .mixedOrders = true) (h : wpK P .any ops Q m ops.size (Array.replicate ops.size false) a w.drew) : (Code.region id ops true).wp P Q a w :=
  wp_region_any hm (wpAny_of_K _ _ _ _ h)
end
section
variable {P : Program} {Q : Exit → Act → World → Prop} {md : Region.Mode} {m : Nat}
/-- Take number i: a value. -/
theorem wpK_val {L r : List Oper} {i : Nat} {oi : Oper} {v : Value} {n : Nat} {l : Array Bool} {a : Act} {w : World} (hi : L.drop i = oi :: r) (hs : Region.noSelect L.toArray = true) (hf : Region.free md L.toArray l i = true) (hr : (Region.ready md L.toArray l).contains i = true) (ht : waits md m L.toArray l i (clo md L.toArray l i) = true)
    (hQ : ∀ c a w, Q (.panic c) (a.put oi.dst v) w → Q (.panic c) a w) (hw : Region.wanted oi (yielded L.toArray a.tmps) = true) (hy : ∀ x, Later w x → (execOp a.eval oi).run P x = .ok (.value v) x)
    (h : wpK P md L.toArray Q m n (l.setIfInBounds i true) (a.put oi.dst v) w) : wpK P md L.toArray Q m (n + 1) l a w :=
  wpK_first (at_drop hi) (Region.noSelect_spec hs) hQ n l a w ht (Region.free_spec (at_drop hi) hf) (by simpa using hr) (Or.inl ⟨hw, fun x hx => by unfold Oper.quietAt; rw [hy x hx]; exact ⟨rfl, rfl⟩⟩) h
/-- Take number i: a call. -/
theorem wpK_call {L r : List Oper} {i : Nat} {oi : Oper} {v : Value} {f : FuncId} {args : Array Value} {n : Nat} {l : Array Bool} {a : Act} {w : World} (hi : L.drop i = oi :: r) (hs : Region.noSelect L.toArray = true) (hf : Region.free md L.toArray l i = true) (hr : (Region.ready md L.toArray l).contains i = true) (ht : waits md m L.toArray l i (clo md L.toArray l i) = true)
    (hQ : ∀ c a w, Q (.panic c) (a.put oi.dst v) w → Q (.panic c) a w) (hw : Region.wanted oi (yielded L.toArray a.tmps) = true) (hy : ∀ x, Later w x → (execOp a.eval oi).run P x = .ok (.enter f args) x)
    (hc : ∀ x, Later w x → Calls P f args x fun e y => e = .returned v ∧ Below x.heap.size x y)
    (h : wpK P md L.toArray Q m n (l.setIfInBounds i true) (a.put oi.dst v) w) : wpK P md L.toArray Q m (n + 1) l a w :=
  wpK_first (at_drop hi) (Region.noSelect_spec hs) hQ n l a w ht (Region.free_spec (at_drop hi) hf) (by simpa using hr) (Or.inl ⟨hw, fun x hx => by unfold Oper.quietAt; rw [hy x hx]; exact ⟨rfl, hc x hx⟩⟩) h
/-- Take number i: it is not wanted. -/
theorem wpK_skip {L r : List Oper} {i : Nat} {oi : Oper} {n : Nat} {l : Array Bool} {a : Act} {w : World} (hi : L.drop i = oi :: r) (hs : Region.noSelect L.toArray = true) (hf : Region.free md L.toArray l i = true) (hr : (Region.ready md L.toArray l).contains i = true) (ht : waits md m L.toArray l i (clo md L.toArray l i) = true)
    (hQ : ∀ c a w, Q (.panic c) (a.put oi.dst undef) w → Q (.panic c) a w) (hw : Region.wanted oi (yielded L.toArray a.tmps) = false)
    (h : wpK P md L.toArray Q m n (l.setIfInBounds i true) (a.put oi.dst undef) w) : wpK P md L.toArray Q m (n + 1) l a w :=
  wpK_first (at_drop hi) (Region.noSelect_spec hs) hQ n l a w ht (Region.free_spec (at_drop hi) hf) (by simpa using hr) (Or.inr ⟨hw, rfl⟩) h
/-- One alone may come up, and answers a value; memory may be made. -/
theorem wpK_one {L r : List Oper} {i : Nat} {oi : Oper} {n : Nat} {l : Array Bool} {a : Act} {w : World} (hr : Region.ready md L.toArray l = [i]) (hi : L.drop i = oi :: r) (hw : Region.wanted oi (yielded L.toArray a.tmps) = true)
    (h : ∀ x, Later w x → ∃ (v : Value) (y : World), (execOp a.eval oi).run P x = .ok (.value v) y ∧ Later x y ∧ wpK P md L.toArray Q m n (l.setIfInBounds i true) (a.put oi.dst v) y) : wpK P md L.toArray Q m (n + 1) l a w := by
  refine .inr fun x hx => ?_
  rw [hr]
  refine ⟨fun h => (by cases h), fun j hj => ?_⟩
  rw [List.mem_singleton] at hj
  subst hj
  obtain ⟨v, y, h1, h2, h3⟩ := h x hx
  unfold wpOp
  rw [at_drop hi]
  dsimp only
  rw [if_pos hw]
  refine Or.inl ?_
  unfold Oper.wp
  rw [h1]
  exact ⟨h2, h3⟩
/-- One alone may come up: a call that answers what it likes and only makes memory. -/
theorem wpK_onecall {L r : List Oper} {i : Nat} {oi : Oper} {f : FuncId} {args : Array Value} {n : Nat} {l : Array Bool} {a : Act} {w : World} (hr : Region.ready md L.toArray l = [i]) (hi : L.drop i = oi :: r) (hw : Region.wanted oi (yielded L.toArray a.tmps) = true)
    (hy : ∀ x, Later w x → (execOp a.eval oi).run P x = .ok (.enter f args) x)
    (h : ∀ x, Later w x → Calls P f args x fun e y => ∃ v, e = .returned v ∧ Below x.heap.size x y ∧ wpK P md L.toArray Q m n (l.setIfInBounds i true) (a.put oi.dst v) y) : wpK P md L.toArray Q m (n + 1) l a w := by
  refine .inr fun x hx => ?_
  rw [hr]
  refine ⟨fun h => (by cases h), fun j hj => ?_⟩
  rw [List.mem_singleton] at hj
  subst hj
  unfold wpOp
  rw [at_drop hi]
  dsimp only
  rw [if_pos hw]
  refine Or.inl ?_
  unfold Oper.wp
  rw [hy x hx]
  exact (h x hx).mono (by rintro e y ⟨v, rfl, h1, h2⟩; exact ⟨h1, h2⟩)
/-- A call and the making of a box may come up, in either order. -/
theorem wpK_callbox {L r r' : List Oper} {i j : Nat} {oi oj : Oper} {f : FuncId} {args : Array Value} {n : Nat} {l : Array Bool} {a : Act} {w : World} {C : Array Value} {t : TypeId}
    (hr : Region.ready md L.toArray l = [i, j]) (hi : L.drop i = oi :: r) (hj : L.drop j = oj :: r') (hw : Region.wanted oi (yielded L.toArray a.tmps) = true) (hwj : Region.wanted oj (yielded L.toArray a.tmps) = true)
    (hy : ∀ x, Later w x → (execOp a.eval oi).run P x = .ok (.enter f args) x) (hz : ∀ x, Later w x → (execOp a.eval oj).run P x = .ok (.value (.pointer (some ⟨x.heap.size, 0, none⟩))) (x.alloc (.cells C t)))
    (h1 : ∀ x, Later w x → Calls P f args x fun e y => ∃ v, e = .returned v ∧ Below x.heap.size x y ∧ wpK P md L.toArray Q m n (l.setIfInBounds i true) (a.put oi.dst v) y)
    (h2 : ∀ x, Later w x → wpK P md L.toArray Q m n (l.setIfInBounds j true) (a.put oj.dst (.pointer (some ⟨x.heap.size, 0, none⟩))) (x.alloc (.cells C t))) : wpK P md L.toArray Q m (n + 1) l a w := by
  refine .inr fun x hx => ?_
  rw [hr]
  refine ⟨fun h => (by cases h), fun k hk => ?_⟩
  rw [List.mem_cons, List.mem_singleton] at hk
  unfold wpOp
  rcases hk with rfl | rfl
  · rw [at_drop hi]
    dsimp only
    rw [if_pos hw]
    refine Or.inl ?_
    unfold Oper.wp
    rw [hy x hx]
    exact (h1 x hx).mono (by rintro e y ⟨v, rfl, q1, q2⟩; exact ⟨q1, q2⟩)
  · rw [at_drop hj]
    dsimp only
    rw [if_pos hwj]
    refine Or.inl ?_
    unfold Oper.wp
    rw [hz x hx]
    exact ⟨(Below.refl _ _).alloc (Nat.le_refl _) _, h2 x hx⟩
/-- The last ones: a value that holds in every world is taken first. -/
theorem wpA_first {ops : Array Oper} {i : Nat} {oi : Oper} {v : Value} (hi : ops[i]? = some oi) (hsel : ∀ (j : Nat) (o : Oper) cs b, ops[j]? = some o → o.op ≠ .select cs b) (hQ : ∀ c a w, Q (.panic c) (a.put oi.dst v) w → Q (.panic c) a w) :
    ∀ (n : Nat) (l : Array Bool) (a : Act) (w : World), (∀ j oj, ops[j]? = some oj → j ≠ i → l.getD j true = false → (∀ e ∈ oj.after, Region.binds md e = true → e.on ≠ i) → oi.apart ops oj = true) →
      i ∈ Region.ready md ops l → Region.wanted oi (yielded ops a.tmps) = true → (∀ x, (execOp a.eval oi).run P x = .ok (.value v) x) → wpAny P md ops Q n (l.setIfInBounds i true) (a.put oi.dst v) w → wpAny P md ops Q (n + 1) l a w := by
  intro n
  induction n with
  | zero =>
    intro l a w _ hr hw hy H
    refine ⟨fun h => (by rw [h] at hr; cases hr), fun j hj => ?_⟩
    by_cases hji : j = i
    · subst hji
      unfold wpOp
      rw [hi]
      dsimp only
      rw [if_pos hw]
      refine Or.inl ?_
      unfold Oper.wp
      rw [hy w]
      exact H
    · have q := ready_mono hj hji
      rw [H.1] at q
      cases q
  | succ n ih =>
    intro l a w hfree hr hw hy H
    refine ⟨fun h => (by rw [h] at hr; cases hr), fun j hj => ?_⟩
    by_cases hji : j = i
    · subst hji
      unfold wpOp
      rw [hi]
      dsimp only
      rw [if_pos hw]
      refine Or.inl ?_
      unfold Oper.wp
      rw [hy w]
      exact H
    · obtain ⟨hun, oj, hoj, -⟩ := mem_ready.1 hj
      have hap := hfree j oj hoj hji hun (ready_free hr hj hoj)
      have h3 := (Oper.apart_spec hap).2.2
      have q := op_frame hoj (wpOp_putIf (S := fun _ => False) hoj hap (fun cs b => hsel i oi cs b hi) (fun cs b => hsel j oj cs b hoj) hQ (Or.inl ⟨hw, fun _ hf => hf.elim⟩) (H.2 j (ready_mono hj hji)))
      refine wpOp_mono ?_ q
      have step : ∀ (b : Act) (y : World), execOp b.eval oi = execOp a.eval oi → Region.wanted oi (yielded ops b.tmps) = Region.wanted oi (yielded ops a.tmps) → wpAny P md ops Q n ((l.setIfInBounds i true).setIfInBounds j true) (b.put oi.dst v) y → wpAny P md ops Q (n + 1) (l.setIfInBounds j true) b y := fun b y e1 e2 hk => by
        refine ih (l.setIfInBounds j true) b y (fun k ok hk hki hku hno => hfree k ok hk hki ?_ hno) (ready_mono hr (Ne.symm hji)) (by rw [e2]; exact hw) (fun x => by rw [e1]; exact hy x) ?_
        · by_cases hjk : j = k
          · subst hjk; exact hun
          · rw [getD_set_ne true hjk] at hku; exact hku
        · rw [Array.setIfInBounds_comm _ _ hji]
          exact hk
      rintro b y ⟨⟨u, rfl | ⟨f, rfl⟩⟩, -, hk⟩
      · exact step _ _ (execOp_put oi (fun cs b => hsel i oi cs b hi) a oj.dst u h3) (wanted_put oi a oj.dst u h3) hk
      · exact step _ _ (execOp_put oi (fun cs b => hsel i oi cs b hi) { a with defers := f :: a.defers } oj.dst u h3) (wanted_put oi { a with defers := f :: a.defers } oj.dst u h3) hk
theorem wpA_val {L r : List Oper} {i : Nat} {oi : Oper} {v : Value} {n : Nat} {l : Array Bool} {a : Act} {w : World} (hi : L.drop i = oi :: r) (hs : Region.noSelect L.toArray = true) (hf : Region.free md L.toArray l i = true) (hr : (Region.ready md L.toArray l).contains i = true)
    (hQ : ∀ c a w, Q (.panic c) (a.put oi.dst v) w → Q (.panic c) a w) (hw : Region.wanted oi (yielded L.toArray a.tmps) = true) (hy : ∀ x, (execOp a.eval oi).run P x = .ok (.value v) x)
    (h : wpAny P md L.toArray Q n (l.setIfInBounds i true) (a.put oi.dst v) w) : wpAny P md L.toArray Q (n + 1) l a w :=
  wpA_first (at_drop hi) (Region.noSelect_spec hs) hQ n l a w (Region.free_spec (at_drop hi) hf) (by simpa using hr) hw hy h
/-- The last one: a call. -/
theorem wpA_call {L r : List Oper} {i : Nat} {oi : Oper} {f : FuncId} {args : Array Value} {n : Nat} {l : Array Bool} {a : Act} {w : World} (hr : Region.ready md L.toArray l = [i]) (hi : L.drop i = oi :: r) (hw : Region.wanted oi (yielded L.toArray a.tmps) = true) (hy : (execOp a.eval oi).run P w = .ok (.enter f args) w)
    (hd : Region.ready md L.toArray (l.setIfInBounds i true) = []) (h : Calls P f args w fun e y => ∃ v, e = .returned v ∧ Q .normal (a.put oi.dst v) y) : wpAny P md L.toArray Q (n + 1) l a w := by
  refine ⟨fun h => (by rw [hr] at h; cases h), fun j hj => ?_⟩
  rw [hr, List.mem_singleton] at hj
  subst hj
  unfold wpOp
  rw [at_drop hi]
  dsimp only
  rw [if_pos hw]
  refine Or.inl ?_
  unfold Oper.wp
  rw [hy]
  refine h.mono ?_
  rintro e y ⟨v, rfl, hq⟩
  cases n with
  | zero => exact ⟨hd, hq⟩
  | succ n => exact ⟨fun _ => hq, by rw [hd]; simp⟩
/-- One alone may come up: a store; the rest behind it. -/
theorem wpA_step {L r : List Oper} {i : Nat} {oi : Oper} {n : Nat} {l : Array Bool} {a : Act} {w y : World} (hr : Region.ready md L.toArray l = [i]) (hi : L.drop i = oi :: r) (hw : Region.wanted oi (yielded L.toArray a.tmps) = true) (hy : (execOp a.eval oi).run P w = .ok .skip y)
    (h : wpAny P md L.toArray Q n (l.setIfInBounds i true) (a.put oi.dst undef) y) : wpAny P md L.toArray Q (n + 1) l a w := by
  refine ⟨fun h => (by rw [hr] at h; cases h), fun j hj => ?_⟩
  rw [hr, List.mem_singleton] at hj
  subst hj
  unfold wpOp
  rw [at_drop hi]
  dsimp only
  rw [if_pos hw]
  refine Or.inl ?_
  unfold Oper.wp
  rw [hy]
  exact h
theorem wpA_done {ops : Array Oper} {l : Array Bool} {a : Act} {w : World} (hr : Region.ready md ops l = []) (h : Q .normal a w) : ∀ n, wpAny P md ops Q n l a w
  | 0 => ⟨hr, h⟩
  | _ + 1 => ⟨fun _ => h, by rw [hr]; simp⟩
/-- The last one: a store. -/
theorem wpA_store {L r : List Oper} {i : Nat} {oi : Oper} {n : Nat} {l : Array Bool} {a : Act} {w y : World} (hr : Region.ready md L.toArray l = [i]) (hi : L.drop i = oi :: r) (hw : Region.wanted oi (yielded L.toArray a.tmps) = true) (hy : (execOp a.eval oi).run P w = .ok .skip y)
    (hd : Region.ready md L.toArray (l.setIfInBounds i true) = []) (h : Q .normal (a.put oi.dst undef) y) : wpAny P md L.toArray Q (n + 1) l a w := by
  refine ⟨fun h => (by rw [hr] at h; cases h), fun j hj => ?_⟩
  rw [hr, List.mem_singleton] at hj
  subst hj
  unfold wpOp
  rw [at_drop hi]
  dsimp only
  rw [if_pos hw]
  refine Or.inl ?_
  unfold Oper.wp
  rw [hy]
  cases n with
  | zero => exact ⟨hd, h⟩
  | succ n => exact ⟨fun _ => h, by rw [hd]; simp⟩
end
end Go.Proofs.Ytoaifodmjkhiiaa
/- GrwD: As GrwC, with any set of last operations; pure values among them are taken ahead (written by gen/mkgrwd.py). -/
namespace Go.Proofs.Ytoaifodmjkhiiaa
set_option maxRecDepth 100000
open Go.RowKit
section
variable {P : Program} {ops : Array Oper} {Q : Exit → Act → World → Prop} {md : Region.Mode} {tl : Nat → Bool}
/-- Only operations from number m on are left. -/
def tailedD (tl : Nat → Bool) (ops : Array Oper) (l : Array Bool) : Bool := (List.range ops.size).all fun j => l.getD j true || tl j
theorem tailedD_spec {l : Array Bool} (h : tailedD tl ops l = true) {j : Nat} (hj : l.getD j true = false) (hs : j < ops.size) : tl j = true := by
  have := List.all_eq_true.1 h j (by simpa using hs)
  rw [hj, Bool.false_or] at this
  exact this
/-- Whatever order is picked from here on, in whatever later world, until only the last ones are left. -/
def wpD (P : Program) (md : Region.Mode) (ops : Array Oper) (Q : Exit → Act → World → Prop) (tl : Nat → Bool) : Nat → Array Bool → Act → World → Prop
  | 0, l, a, w => ∀ x, Later w x → wpAny P md ops Q 0 l a x
  | n + 1, l, a, w => (tailedD tl ops l = true ∧ ∀ x, Later w x → wpAny P md ops Q (n + 1) l a x) ∨ (∀ x, Later w x → (Region.ready md ops l = [] → Q .normal a x) ∧
      ∀ i ∈ Region.ready md ops l, wpOp P ops Q i (fun a' y => Later x y ∧ wpD P md ops Q tl n (l.setIfInBounds i true) a' y) a x)
theorem wpD_later : ∀ (n : Nat) (l : Array Bool) (a : Act) (w y : World), Later w y → wpD P md ops Q tl n l a w → wpD P md ops Q tl n l a y
  | 0, _, _, _, _, hy, h => fun x hx => h x (hy.trans hx)
  | _ + 1, _, _, _, _, hy, h => h.imp (fun q => ⟨q.1, fun x hx => q.2 x (hy.trans hx)⟩) (fun q x hx => q x (hy.trans hx))
theorem wpAny_of_D : ∀ (n : Nat) (l : Array Bool) (a : Act) (w : World), wpD P md ops Q tl n l a w → wpAny P md ops Q n l a w
  | 0, _, _, w, h => h w (Later.refl w)
  | n + 1, _, _, w, h => by
    rcases h with h | h
    · exact h.2 w (Later.refl w)
    · exact ⟨(h w (Later.refl w)).1, fun i hi => wpOp_mono (fun a' y hh => wpAny_of_D n _ a' y hh.2) ((h w (Later.refl w)).2 i hi)⟩
/-- The last ones that are left wait for number i. -/
def waitsD (md : Region.Mode) (tl : Nat → Bool) (ops : Array Oper) (l : Array Bool) (i : Nat) (C : List Nat) : Bool :=
  (C.all fun c => !(l.getD c true) && (((ops[c]?).map fun o => o.after.any fun e => Region.binds md e && ((e.on == i) || C.contains e.on)) == some true)) && ((List.range ops.size).all fun f => !(tl f) || l.getD f true || C.contains f)
theorem waitsD_spec {l : Array Bool} {i : Nat} {C : List Nat} (h : waitsD md tl ops l i C = true) (hi : l.getD i true = false) : ∀ c ∈ C, c ∉ Region.ready md ops l := by
  unfold waitsD at h
  rw [Bool.and_eq_true] at h
  intro c hc hr
  have h1 := List.all_eq_true.1 h.1 c hc
  rw [Bool.and_eq_true] at h1
  obtain ⟨-, o, ho, hall⟩ := mem_ready.1 hr
  rw [ho] at h1
  simp only [Option.map_some, beq_iff_eq, Option.some.injEq] at h1
  have h2 := h1.2
  rw [Array.any_eq_true'] at h2
  obtain ⟨e, he, q⟩ := h2
  rw [Bool.and_eq_true, Bool.or_eq_true] at q
  have hd := hall e he q.1
  rcases q.2 with q2 | q2
  · rw [beq_iff_eq] at q2
    rw [q2] at hd
    exact getD_clash hi hd
  · have hm : e.on ∈ C := by simpa using q2
    have h3 := List.all_eq_true.1 h.1 _ hm
    rw [Bool.and_eq_true, Bool.not_eq_true'] at h3
    exact getD_clash h3.1 hd
theorem waitsD_last {l : Array Bool} {i f : Nat} {C : List Nat} (h : waitsD md tl ops l i C = true) (hf : tl f = true) (hu : l.getD f true = false) (hs : f < ops.size) : f ∈ C := by
  unfold waitsD at h
  rw [Bool.and_eq_true] at h
  have := List.all_eq_true.1 h.2 f (by simpa using hs)
  rw [hu, Bool.or_false, hf] at this
  simpa using this
theorem waitsD_step {l : Array Bool} {i j : Nat} {C : List Nat} (h : waitsD md tl ops l i C = true) (hj : j ∉ C) : waitsD md tl ops (l.setIfInBounds j true) i C = true := by
  unfold waitsD at h ⊢
  rw [Bool.and_eq_true] at h ⊢
  refine ⟨List.all_eq_true.2 fun c hc => ?_, List.all_eq_true.2 fun f hf => ?_⟩
  · have h1 := List.all_eq_true.1 h.1 c hc
    have hcj : j ≠ c := fun e => hj (e ▸ hc)
    rw [getD_set_ne true hcj]
    exact h1
  · have h1 := List.all_eq_true.1 h.2 f hf
    by_cases e : j = f
    · subst e
      have : (l.setIfInBounds j true).getD j true = true := by
        simp only [Array.getD]
        split
        · simp
        · rfl
      rw [this]
      simp
    · rw [getD_set_ne true e]
      exact h1
theorem wpD_first {i : Nat} {oi : Oper} {v : Value} {C : List Nat} (hi : ops[i]? = some oi) (hsel : ∀ (j : Nat) (o : Oper) cs b, ops[j]? = some o → o.op ≠ .select cs b) (hQ : ∀ c a w, Q (.panic c) (a.put oi.dst v) w → Q (.panic c) a w) :
    ∀ (n : Nat) (l : Array Bool) (a : Act) (w : World), waitsD md tl ops l i C = true → (∀ j oj, ops[j]? = some oj → j ≠ i → l.getD j true = false → (∀ e ∈ oj.after, Region.binds md e = true → e.on ≠ i) → oi.apart ops oj = true) →
      i ∈ Region.ready md ops l → YL P ops oi v a w → wpD P md ops Q tl n (l.setIfInBounds i true) (a.put oi.dst v) w → wpD P md ops Q tl (n + 1) l a w := by
  intro n
  induction n with
  | zero =>
    intro l a w _ _ hr hy H
    refine .inr fun x hx => ⟨fun h => (by rw [h] at hr; cases hr), fun j hj => ?_⟩
    by_cases hji : j = i
    · subst hji
      exact hy.op hi hx fun y hxy => ⟨hxy, wpD_later 0 _ _ _ _ (hx.trans hxy) H⟩
    · have q := ready_mono hj hji
      rw [(H w (Later.refl w)).1] at q
      cases q
  | succ n ih =>
    intro l a w hwt hfree hr hy H
    refine .inr fun x hx => ⟨fun h => (by rw [h] at hr; cases hr), fun j hj => ?_⟩
    by_cases hji : j = i
    · subst hji
      exact hy.op hi hx fun y hxy => ⟨hxy, wpD_later (n + 1) _ _ _ _ (hx.trans hxy) H⟩
    · obtain ⟨hun, oj, hoj, -⟩ := mem_ready.1 hj
      have hjC : j ∉ C := fun hc => waitsD_spec hwt (mem_ready.1 hr).1 j hc hj
      rcases H with H | H
      · have hju : (l.setIfInBounds i true).getD j true = false := by rw [getD_set_ne true (Ne.symm hji)]; exact hun
        have hjs := (Array.getElem?_eq_some_iff.1 hoj).1
        have hjm := tailedD_spec H.1 hju hjs
        exact absurd (waitsD_last hwt hjm hun hjs) hjC
      · have q := op_beside hoj (hfree j oj hoj hji hun (ready_free hr hj hoj)) (fun cs b => hsel i oi cs b hi) (fun cs b => hsel j oj cs b hoj) hQ hy ((H x hx).2 j (ready_mono hj hji))
        refine wpOp_mono (fun b y hb => ⟨hb.2.1, ih (l.setIfInBounds j true) b y (waitsD_step hwt hjC) (fun k ok hk hki hku hno => hfree k ok hk hki ?_ hno) (ready_mono hr (Ne.symm hji)) (hb.1.later (hx.trans hb.2.1)) ?_⟩) q
        · by_cases hjk : j = k
          · subst hjk; exact hun
          · rw [getD_set_ne true hjk] at hku; exact hku
        · rw [Array.setIfInBounds_comm _ _ hji]
          exact hb.2.2
theorem wpD_tail {l : Array Bool} {a : Act} {w : World} (ht : tailedD tl ops l = true) : ∀ {n : Nat}, (∀ x, Later w x → wpAny P md ops Q n l a x) → wpD P md ops Q tl n l a w
  | 0, h => h
  | _ + 1, h => .inl ⟨ht, h⟩
theorem wpD_done {l : Array Bool} {a : Act} {w : World} (hr : Region.ready md ops l = []) (h : ∀ x, Later w x → Q .normal a x) : ∀ n, wpD P md ops Q tl n l a w
  | 0 => fun x hx => ⟨hr, h x hx⟩
  | _ + 1 => .inr fun x hx => ⟨fun _ => h x hx, by rw [hr]; simp⟩
theorem wp_region_set {id : Nat} {a : Act} {w : World} (tl : Nat → Bool) (hm : P.follows .mixedOrders = true) (h : wpD P .any ops Q tl ops.size (Array.replicate ops.size false) a w.drew) : (Code.region id ops true).wp P Q a w :=
  wp_region_any hm (wpAny_of_D _ _ _ _ h)
end
section
variable {P : Program} {Q : Exit → Act → World → Prop} {md : Region.Mode} {tl : Nat → Bool}
/-- Take number i: a value. -/
theorem wpD_val {L r : List Oper} {i : Nat} {oi : Oper} {v : Value} {n : Nat} {l : Array Bool} {a : Act} {w : World} (hi : L.drop i = oi :: r) (hs : Region.noSelect L.toArray = true) (hf : Region.free md L.toArray l i = true) (hr : (Region.ready md L.toArray l).contains i = true) (ht : waitsD md tl L.toArray l i (clo md L.toArray l i) = true)
    (hQ : ∀ c a w, Q (.panic c) (a.put oi.dst v) w → Q (.panic c) a w) (hw : Region.wanted oi (yielded L.toArray a.tmps) = true) (hy : ∀ x, Later w x → (execOp a.eval oi).run P x = .ok (.value v) x)
    (h : wpD P md L.toArray Q tl n (l.setIfInBounds i true) (a.put oi.dst v) w) : wpD P md L.toArray Q tl (n + 1) l a w :=
  wpD_first (at_drop hi) (Region.noSelect_spec hs) hQ n l a w ht (Region.free_spec (at_drop hi) hf) (by simpa using hr) (Or.inl ⟨hw, fun x hx => by unfold Oper.quietAt; rw [hy x hx]; exact ⟨rfl, rfl⟩⟩) h
/-- Take number i: a call. -/
theorem wpD_call {L r : List Oper} {i : Nat} {oi : Oper} {v : Value} {f : FuncId} {args : Array Value} {n : Nat} {l : Array Bool} {a : Act} {w : World} (hi : L.drop i = oi :: r) (hs : Region.noSelect L.toArray = true) (hf : Region.free md L.toArray l i = true) (hr : (Region.ready md L.toArray l).contains i = true) (ht : waitsD md tl L.toArray l i (clo md L.toArray l i) = true)
    (hQ : ∀ c a w, Q (.panic c) (a.put oi.dst v) w → Q (.panic c) a w) (hw : Region.wanted oi (yielded L.toArray a.tmps) = true) (hy : ∀ x, Later w x → (execOp a.eval oi).run P x = .ok (.enter f args) x)
    (hc : ∀ x, Later w x → Calls P f args x fun e y => e = .returned v ∧ Below x.heap.size x y)
    (h : wpD P md L.toArray Q tl n (l.setIfInBounds i true) (a.put oi.dst v) w) : wpD P md L.toArray Q tl (n + 1) l a w :=
  wpD_first (at_drop hi) (Region.noSelect_spec hs) hQ n l a w ht (Region.free_spec (at_drop hi) hf) (by simpa using hr) (Or.inl ⟨hw, fun x hx => by unfold Oper.quietAt; rw [hy x hx]; exact ⟨rfl, hc x hx⟩⟩) h
/-- Take number i: it is not wanted. -/
theorem wpD_skip {L r : List Oper} {i : Nat} {oi : Oper} {n : Nat} {l : Array Bool} {a : Act} {w : World} (hi : L.drop i = oi :: r) (hs : Region.noSelect L.toArray = true) (hf : Region.free md L.toArray l i = true) (hr : (Region.ready md L.toArray l).contains i = true) (ht : waitsD md tl L.toArray l i (clo md L.toArray l i) = true)
    (hQ : ∀ c a w, Q (.panic c) (a.put oi.dst undef) w → Q (.panic c) a w) (hw : Region.wanted oi (yielded L.toArray a.tmps) = false)
    (h : wpD P md L.toArray Q tl n (l.setIfInBounds i true) (a.put oi.dst undef) w) : wpD P md L.toArray Q tl (n + 1) l a w :=
  wpD_first (at_drop hi) (Region.noSelect_spec hs) hQ n l a w ht (Region.free_spec (at_drop hi) hf) (by simpa using hr) (Or.inr ⟨hw, rfl⟩) h
/-- One alone may come up, and answers a value; memory may be made. -/
theorem wpD_one {L r : List Oper} {i : Nat} {oi : Oper} {n : Nat} {l : Array Bool} {a : Act} {w : World} (hr : Region.ready md L.toArray l = [i]) (hi : L.drop i = oi :: r) (hw : Region.wanted oi (yielded L.toArray a.tmps) = true)
    (h : ∀ x, Later w x → ∃ (v : Value) (y : World), (execOp a.eval oi).run P x = .ok (.value v) y ∧ Later x y ∧ wpD P md L.toArray Q tl n (l.setIfInBounds i true) (a.put oi.dst v) y) : wpD P md L.toArray Q tl (n + 1) l a w := by
  refine .inr fun x hx => ?_
  rw [hr]
  refine ⟨fun h => (by cases h), fun j hj => ?_⟩
  rw [List.mem_singleton] at hj
  subst hj
  obtain ⟨v, y, h1, h2, h3⟩ := h x hx
  unfold wpOp
  rw [at_drop hi]
  dsimp only
  rw [if_pos hw]
  refine Or.inl ?_
  unfold Oper.wp
  rw [h1]
  exact ⟨h2, h3⟩
/-- One alone may come up: a call that answers what it likes and only makes memory. -/
theorem wpD_onecall {L r : List Oper} {i : Nat} {oi : Oper} {f : FuncId} {args : Array Value} {n : Nat} {l : Array Bool} {a : Act} {w : World} (hr : Region.ready md L.toArray l = [i]) (hi : L.drop i = oi :: r) (hw : Region.wanted oi (yielded L.toArray a.tmps) = true)
    (hy : ∀ x, Later w x → (execOp a.eval oi).run P x = .ok (.enter f args) x)
    (h : ∀ x, Later w x → Calls P f args x fun e y => ∃ v, e = .returned v ∧ Below x.heap.size x y ∧ wpD P md L.toArray Q tl n (l.setIfInBounds i true) (a.put oi.dst v) y) : wpD P md L.toArray Q tl (n + 1) l a w := by
  refine .inr fun x hx => ?_
  rw [hr]
  refine ⟨fun h => (by cases h), fun j hj => ?_⟩
  rw [List.mem_singleton] at hj
  subst hj
  unfold wpOp
  rw [at_drop hi]
  dsimp only
  rw [if_pos hw]
  refine Or.inl ?_
  unfold Oper.wp
  rw [hy x hx]
  exact (h x hx).mono (by rintro e y ⟨v, rfl, h1, h2⟩; exact ⟨h1, h2⟩)
/-- A call and the making of a box may come up, in either order. -/
theorem wpD_callbox {L r r' : List Oper} {i j : Nat} {oi oj : Oper} {f : FuncId} {args : Array Value} {n : Nat} {l : Array Bool} {a : Act} {w : World} {C : Array Value} {t : TypeId}
    (hr : Region.ready md L.toArray l = [i, j]) (hi : L.drop i = oi :: r) (hj : L.drop j = oj :: r') (hw : Region.wanted oi (yielded L.toArray a.tmps) = true) (hwj : Region.wanted oj (yielded L.toArray a.tmps) = true)
    (hy : ∀ x, Later w x → (execOp a.eval oi).run P x = .ok (.enter f args) x) (hz : ∀ x, Later w x → (execOp a.eval oj).run P x = .ok (.value (.pointer (some ⟨x.heap.size, 0, none⟩))) (x.alloc (.cells C t)))
    (h1 : ∀ x, Later w x → Calls P f args x fun e y => ∃ v, e = .returned v ∧ Below x.heap.size x y ∧ wpD P md L.toArray Q tl n (l.setIfInBounds i true) (a.put oi.dst v) y)
    (h2 : ∀ x, Later w x → wpD P md L.toArray Q tl n (l.setIfInBounds j true) (a.put oj.dst (.pointer (some ⟨x.heap.size, 0, none⟩))) (x.alloc (.cells C t))) : wpD P md L.toArray Q tl (n + 1) l a w := by
  refine .inr fun x hx => ?_
  rw [hr]
  refine ⟨fun h => (by cases h), fun k hk => ?_⟩
  rw [List.mem_cons, List.mem_singleton] at hk
  unfold wpOp
  rcases hk with rfl | rfl
  · rw [at_drop hi]
    dsimp only
    rw [if_pos hw]
    refine Or.inl ?_
    unfold Oper.wp
    rw [hy x hx]
    exact (h1 x hx).mono (by rintro e y ⟨v, rfl, q1, q2⟩; exact ⟨q1, q2⟩)
  · rw [at_drop hj]
    dsimp only
    rw [if_pos hwj]
    refine Or.inl ?_
    unfold Oper.wp
    rw [hz x hx]
    exact ⟨(Below.refl _ _).alloc (Nat.le_refl _) _, h2 x hx⟩
/-- One of the last ones that is a value in every world is taken first. -/
theorem wpD_purely {ops : Array Oper} {i : Nat} {oi : Oper} {v : Value} (hi : ops[i]? = some oi) (hti : tl i = true) (hsel : ∀ (j : Nat) (o : Oper) cs b, ops[j]? = some o → o.op ≠ .select cs b) (hQ : ∀ c a w, Q (.panic c) (a.put oi.dst v) w → Q (.panic c) a w) :
    ∀ (n : Nat) (l : Array Bool) (a : Act) (w : World), (∀ j oj, ops[j]? = some oj → j ≠ i → l.getD j true = false → (∀ e ∈ oj.after, Region.binds md e = true → e.on ≠ i) → oi.apart ops oj = true) →
      i ∈ Region.ready md ops l → Region.wanted oi (yielded ops a.tmps) = true → (∀ x, (execOp a.eval oi).run P x = .ok (.value v) x) → wpD P md ops Q tl n (l.setIfInBounds i true) (a.put oi.dst v) w → wpD P md ops Q tl (n + 1) l a w := by
  have htail : ∀ {l : Array Bool}, tailedD tl ops (l.setIfInBounds i true) = true → tailedD tl ops l = true := fun {l} h => by
    unfold tailedD at h ⊢
    refine List.all_eq_true.2 fun j hj => ?_
    by_cases e : i = j
    · subst e
      rw [hti, Bool.or_true]
    · have := List.all_eq_true.1 h j hj
      rw [getD_set_ne true e] at this
      exact this
  intro n
  induction n with
  | zero =>
    intro l a w _ hr hw hy H
    refine .inr fun x hx => ⟨fun h => (by rw [h] at hr; cases hr), fun j hj => ?_⟩
    by_cases hji : j = i
    · subst hji
      have hyl : YL P ops oi v a w := Or.inl ⟨hw, fun x _ => by unfold Oper.quietAt; rw [hy x]; exact ⟨rfl, rfl⟩⟩
      exact hyl.op hi hx fun y hxy => ⟨hxy, wpD_later 0 _ _ _ _ (hx.trans hxy) H⟩
    · have q := ready_mono hj hji
      rw [(H w (Later.refl w)).1] at q
      cases q
  | succ n ih =>
    intro l a w hfree hr hw hy H
    rcases H with H | H
    · exact .inl ⟨htail H.1, fun x hx => wpA_first hi hsel hQ _ l a x hfree hr hw hy (H.2 x hx)⟩
    · have hyl : YL P ops oi v a w := Or.inl ⟨hw, fun x _ => by unfold Oper.quietAt; rw [hy x]; exact ⟨rfl, rfl⟩⟩
      refine .inr fun x hx => ⟨fun h => (by rw [h] at hr; cases hr), fun j hj => ?_⟩
      by_cases hji : j = i
      · subst hji
        exact hyl.op hi hx fun y hxy => ⟨hxy, wpD_later (n + 1) _ _ _ _ (hx.trans hxy) (.inr H)⟩
      · obtain ⟨hun, oj, hoj, -⟩ := mem_ready.1 hj
        have hap := hfree j oj hoj hji hun (ready_free hr hj hoj)
        have h3 := (Oper.apart_spec hap).2.2
        have q := op_frame hoj (wpOp_putIf (S := fun _ => False) hoj hap (fun cs b => hsel i oi cs b hi) (fun cs b => hsel j oj cs b hoj) hQ (Or.inl ⟨hw, fun _ hf => hf.elim⟩) ((H x hx).2 j (ready_mono hj hji)))
        refine wpOp_mono ?_ q
        have step : ∀ (b : Act) (y : World), Later x y → execOp b.eval oi = execOp a.eval oi → Region.wanted oi (yielded ops b.tmps) = Region.wanted oi (yielded ops a.tmps) → wpD P md ops Q tl n ((l.setIfInBounds i true).setIfInBounds j true) (b.put oi.dst v) y → Later x y ∧ wpD P md ops Q tl (n + 1) (l.setIfInBounds j true) b y := fun b y hl e1 e2 hk => by
          refine ⟨hl, ih (l.setIfInBounds j true) b y (fun k ok hk hki hku hno => hfree k ok hk hki ?_ hno) (ready_mono hr (Ne.symm hji)) (by rw [e2]; exact hw) (fun x => by rw [e1]; exact hy x) ?_⟩
          · by_cases hjk : j = k
            · subst hjk; exact hun
            · rw [getD_set_ne true hjk] at hku; exact hku
          · rw [Array.setIfInBounds_comm _ _ hji]
            exact hk
        rintro b y ⟨⟨u, rfl | ⟨f, rfl⟩⟩, -, hl, hk⟩
        · exact step _ _ hl (execOp_put oi (fun cs b => hsel i oi cs b hi) a oj.dst u h3) (wanted_put oi a oj.dst u h3) hk
        · exact step _ _ hl (execOp_put oi (fun cs b => hsel i oi cs b hi) { a with defers := f :: a.defers } oj.dst u h3) (wanted_put oi { a with defers := f :: a.defers } oj.dst u h3) hk
theorem wpD_pure {L r : List Oper} {i : Nat} {oi : Oper} {v : Value} {n : Nat} {l : Array Bool} {a : Act} {w : World} (hi : L.drop i = oi :: r) (hti : tl i = true) (hs : Region.noSelect L.toArray = true) (hf : Region.free md L.toArray l i = true) (hr : (Region.ready md L.toArray l).contains i = true)
    (hQ : ∀ c a w, Q (.panic c) (a.put oi.dst v) w → Q (.panic c) a w) (hw : Region.wanted oi (yielded L.toArray a.tmps) = true) (hy : ∀ x, (execOp a.eval oi).run P x = .ok (.value v) x)
    (h : wpD P md L.toArray Q tl n (l.setIfInBounds i true) (a.put oi.dst v) w) : wpD P md L.toArray Q tl (n + 1) l a w :=
  wpD_purely (at_drop hi) hti (Region.noSelect_spec hs) hQ n l a w (Region.free_spec (at_drop hi) hf) (by simpa using hr) hw hy h
end
end Go.Proofs.Ytoaifodmjkhiiaa
