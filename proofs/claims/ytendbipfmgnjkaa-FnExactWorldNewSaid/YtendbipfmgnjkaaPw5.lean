/- Texts of ours, laid one behind the other: HsM, GrwA, HsA, HsB, OwS, ApRow, WdN, HsH, PzR, PzRm. -/
import Derived.Test.YtendbipfmgnjkaaPw4
import Derived.BigQuiet
import Derived.Maps.AppendAt
import Derived.Deep.Upon
import Derived.PlainAid
import Derived.OwnWalk
import Derived.Deep.RegionHeld3
import Derived.Deep.DrawnRows
/- HsM: Rows of hosts in memory: one that is read, one that may be written. -/
namespace Go.Proofs.Ytendbipfmgnjkaa
set_option maxRecDepth 100000
open Go.RowKit

/-- A host, and where its units lie. -/
structure HoR where
  h : HM
  loc : Option Addr
  cap : Nat
instance : Inhabited HoR := ⟨⟨default, none, 0⟩⟩
def hC (r : HoR) : List Value := [.int .i64 r.h.id, .bool r.h.up, .slice r.loc r.h.us.length r.cap]
theorem hC_len (r : HoR) : (hC r).length = 3 := rfl
def HK : NK HoR := ⟨hC, 3, hC_len, HoR.loc, fun r => unS r.h.us⟩
def hS (rs : List HoR) : List Value := HK.cells rs
theorem hS_len (rs : List HoR) : (hS rs).length = rs.length * 3 := HK.cells_len rs
def hms (rs : List HoR) : List HM := rs.map HoR.h
theorem hms_len (rs : List HoR) : (hms rs).length = rs.length := by simp [hms]
/-- A row of hosts, as it is read. -/
def HsRow (w : World) (a : Option Addr) (rs : List HoR) : Prop := CRow w a (hS rs) ∧ ∀ r ∈ rs, UnRow w r.loc r.h.us
theorem HsRow.stays {w w' : World} {a : Option Addr} {rs : List HoR} (h : HsRow w a rs) (hb : Below w.heap.size w w') : HsRow w' a rs := ⟨h.1.stays hb, fun r hr => (h.2 r hr).stays hb⟩
theorem HsRow.at {w : World} {a : Option Addr} {rs : List HoR} (h : HsRow w a rs) (hp : 0 < rs.length) : ∃ b off, a = some ⟨b, off, none⟩ ∧ b < w.heap.size ∧ ∀ k (hk : k < rs.length), w.cell? ⟨b, off + k * 3, none⟩ = some (.int .i64 rs[k].h.id) ∧ w.cell? ⟨b, off + k * 3 + 1, none⟩ = some (.bool rs[k].h.up) ∧ w.cell? ⟨b, off + k * 3 + 2, none⟩ = some (.slice rs[k].loc rs[k].h.us.length rs[k].cap) ∧ UnRow w rs[k].loc rs[k].h.us := by
  obtain ⟨b, off, e, lb, hc⟩ := h.1 (by rw [hS_len]; omega)
  refine ⟨b, off, e, lb, fun k hk => ?_⟩
  have q : ∀ i v, i < 3 → (hC rs[k])[i]? = some v → w.cell? ⟨b, off + (k * 3 + i), none⟩ = some v := fun i v hi hv => hc _ v (by
    have := HK.cells_get rs k hk i hi
    exact this.trans hv)
  have q0 := q 0 _ (by omega) rfl
  have q1 := q 1 _ (by omega) rfl
  have q2 := q 2 _ (by omega) rfl
  rw [Nat.add_zero] at q0
  rw [← Nat.add_assoc] at q1 q2
  exact ⟨q0, q1, q2, h.2 _ (List.getElem_mem hk)⟩
/-- A host of a row, in every later world. -/
theorem hs_at {w W : World} {a : Option Addr} {rs : List HoR} (hr : HsRow w a rs) (hb : Below w.heap.size w W) {k : Nat} (hk : k < rs.length) : ∃ b off r, a = some ⟨b, off, none⟩ ∧ r = rs[k] ∧ b < w.heap.size ∧ ∀ X, Below W.heap.size W X → X.cell? ⟨b, off + k * 3, none⟩ = some (.int .i64 r.h.id) ∧ X.cell? ⟨b, off + k * 3 + 1, none⟩ = some (.bool r.h.up) ∧ X.cell? ⟨b, off + k * 3 + 2, none⟩ = some (.slice r.loc r.h.us.length r.cap) ∧ UnRow X r.loc r.h.us := by
  obtain ⟨b, off, e, lb, _⟩ := hr.at (by omega)
  refine ⟨b, off, rs[k], e, rfl, lb, fun X hX => ?_⟩
  obtain ⟨b', off', e', _, hc⟩ := (hr.stays (hb.trans (hX.mono hb.size))).at (by omega)
  rw [e] at e'
  simp only [Option.some.injEq, Addr.mk.injEq, and_true] at e'
  obtain ⟨rfl, rfl⟩ := e'
  exact hc k hk
/-- A row of hosts that may be written: all in a range. -/
def HsW (w : World) (va : Option Addr) (rs : List HoR) (lo hi : Nat) : Prop := (∀ r ∈ rs, r.h.us.length ≤ r.cap) ∧ ((va = none ∧ rs = []) ∨ ∃ g, va = some ⟨g, 0, none⟩ ∧ GW HK w g rs lo hi)
theorem HsW.row {w : World} {va : Option Addr} {rs : List HoR} {lo hi : Nat} (h : HsW w va rs lo hi) : HsRow w va rs := by
  rcases h.2 with ⟨rfl, rfl⟩ | ⟨g, rfl, hg⟩
  · exact ⟨fun hp => by rw [hS_len] at hp; simp at hp, fun r hr => by cases hr⟩
  · exact ⟨hg.gr.1.crow, fun r hr => (hg.gr.2 r hr).crow⟩
theorem HsW.turned {w w' : World} {va : Option Addr} {rs : List HoR} {lo hi lo' hi' : Nat} (h : HsW w va rs lo hi) (t : Turned w w' lo' hi') (hd : hi ≤ lo' ∨ hi' ≤ lo) : HsW w' va rs lo hi :=
  ⟨h.1, h.2.imp id fun ⟨g, e, hg⟩ => ⟨g, e, hg.turned t hd⟩⟩
theorem HsW.below {w w' : World} {va : Option Addr} {rs : List HoR} {lo hi : Nat} (h : HsW w va rs lo hi) (hb : Below w.heap.size w w') : HsW w' va rs lo hi := ⟨h.1, h.2.imp id fun ⟨g, e, hg⟩ => ⟨g, e, hg.below hb⟩⟩
theorem HsW.wide {w : World} {va : Option Addr} {rs : List HoR} {lo hi lo' hi' : Nat} (h : HsW w va rs lo hi) (h1 : lo' ≤ lo) (h2 : hi ≤ hi') : HsW w va rs lo' hi' := ⟨h.1, h.2.imp id fun ⟨g, e, hg⟩ => ⟨g, e, hg.wide h1 h2⟩⟩
/-- A row of hosts as a stretch. -/
abbrev hsS (va : Option Addr) (rs : List HoR) (lo hi : Nat) : Str := ⟨fun W => HsW W va rs lo hi, lo, hi⟩
theorem hsS.loc (va : Option Addr) (rs : List HoR) (lo hi : Nat) : (hsS va rs lo hi).Loc := fun _ _ _ _ h t hd => HsW.turned h t hd
/-- The answer: hosts in rows of the call's own. -/
def HsPost (hs : List HM) (w : World) (e : Ending) (w' : World) : Prop := ∃ va cap rs, e = .returned (.slice va rs.length cap) ∧ hms rs = hs ∧ HsW w' va rs w.heap.size w'.heap.size ∧ rs.length ≤ cap ∧ Below w.heap.size w w'
/-- How much hosts hold. -/
def hsSum : List HM → Nat
  | [] => 0
  | h :: hs => (h.us.length + unSum h.us) + hsSum hs
theorem hsSum_take (hs : List HM) (k : Nat) (h : k < hs.length) : hsSum (hs.take (k + 1)) = hsSum (hs.take k) + (hs[k].us.length + unSum hs[k].us) := by
  induction hs generalizing k with
  | nil => simp at h
  | cons a hs ih =>
    cases k with
    | zero => simp [hsSum]
    | succ k =>
      have := ih k (by simpa using h)
      simp only [List.take_succ_cons, hsSum, List.getElem_cons_succ] at this ⊢
      omega
theorem hsSum_mem {hs : List HM} {h : HM} (hm : h ∈ hs) : h.us.length + unSum h.us ≤ hsSum hs := by
  induction hs with
  | nil => cases hm
  | cons a hs ih =>
    simp only [hsSum]
    rcases List.mem_cons.1 hm with rfl | hm
    · omega
    · have := ih hm; omega
def HsFits (hs : List HM) : Prop := hs.length ≤ 9223372036854775807 ∧ ∀ h ∈ hs, UnFits h.us ∧ -9223372036854775808 ≤ h.id ∧ h.id ≤ 9223372036854775807
/-- The hosts whose fields are marks. -/
def marksH (k : Nat) : List HM → List HM
  | [] => []
  | h :: hs => ⟨(k : Nat), (k + 1) % 3 == 0, marksU (k + 2) h.us.length⟩ :: marksH (k + 2 + 4 * h.us.length) hs
def endH (k : Nat) : List HM → Nat
  | [] => k
  | h :: hs => endH (k + 2 + 4 * h.us.length) hs
theorem endH_eq (k : Nat) (hs : List HM) : endH k hs = k + 2 * hs.length + 4 * (hs.map fun h => h.us.length).sum := by
  induction hs generalizing k with
  | nil => simp [endH]
  | cons h hs ih => simp only [endH, ih, List.length_cons, List.map_cons, List.sum_cons]; omega
theorem marksH_len (k : Nat) (hs : List HM) : (marksH k hs).length = hs.length := by
  induction hs generalizing k with
  | nil => rfl
  | cons h hs ih => simp [marksH, ih]
theorem endH_take (k : Nat) (hs : List HM) (j : Nat) (hj : j < hs.length) : endH k (hs.take (j + 1)) = endH k (hs.take j) + 2 + 4 * hs[j].us.length := by
  induction hs generalizing k j with
  | nil => simp at hj
  | cons h hs ih =>
    cases j with
    | zero => simp [endH]
    | succ j => simpa [endH] using ih (k + 2 + 4 * h.us.length) j (by simpa using hj)
theorem marksH_at (k : Nat) (hs : List HM) (j : Nat) (hj : j < hs.length) : (marksH k hs)[j]'(by rw [marksH_len]; exact hj) = ⟨(endH k (hs.take j) : Nat), (endH k (hs.take j) + 1) % 3 == 0, marksU (endH k (hs.take j) + 2) hs[j].us.length⟩ := by
  induction hs generalizing k j with
  | nil => simp at hj
  | cons h hs ih =>
    cases j with
    | zero => simp [marksH, endH]
    | succ j => simpa [marksH, endH] using ih (k + 2 + 4 * h.us.length) j (by simpa using hj)
/-- A host is laid anew into such a row. -/
theorem GW.host {w w2 : World} {g lo : Nat} {rs : List HoR} (h : GW HK w g rs lo w.heap.size) (hb : Below w.heap.size w w2) (j : Nat) (hj : j < rs.length) (H : HM) (a : Option Addr) (cap : Nat) (hF : FRw w2 a (unS H.us) w.heap.size w2.heap.size) (hlo : lo ≤ w.heap.size) :
    GW HK (setW w2 g (j * 3) (hC ⟨H, a, cap⟩)) g (rs.set j ⟨H, a, cap⟩) lo w2.heap.size := by
  have k := (h.below hb).wide (Nat.le_refl _) hb.size
  refine k.put j hj ⟨H, a, cap⟩ ?_ fun s hs h1 h2 e => ?_
  · rcases hF with ⟨_, e⟩ | ⟨q, e, q1, q2, q3⟩
    · exact .inl e
    · exact .inr ⟨q, e, by omega, q2, by have := h.ghi; omega, q3⟩
  · rcases h.rows s hs with q | ⟨b, e1, q1, q2, q3, q4⟩
    · exact h1 q
    · rcases hF with ⟨_, q⟩ | ⟨q, e2, p1, p2, p3⟩
      · exact h2 q
      · have : some (⟨b, 0, none⟩ : Addr) = some ⟨q, 0, none⟩ := by rw [← e1, ← e2]; exact e
        simp only [Option.some.injEq, Addr.mk.injEq, and_true] at this
        omega
theorem setW3 (w : World) (g o : Nat) (v0 v1 v2 : Value) : setW w g o [v0, v1, v2] = ((w.setCell ⟨g, o, none⟩ v0).setCell ⟨g, o + 1, none⟩ v1).setCell ⟨g, o + 2, none⟩ v2 := rfl
theorem setW_sz (w : World) (g off : Nat) (vs : List Value) : (setW w g off vs).heap.size = w.heap.size := by
  induction vs generalizing w off with
  | nil => rfl
  | cons v vs ih => show (setW _ g (off + 1) vs).heap.size = _; rw [ih]; simp [World.setCell]
end Go.Proofs.Ytendbipfmgnjkaa
/- GrwA: A region that draws its order, whose operations only read and whose callees make new memory alone and answer one value wherever they are called: one walk, in the text's order. -/
namespace Go.Proofs.Ytendbipfmgnjkaa
set_option maxRecDepth 100000
open Go.RowKit

/-- A world with more memory. -/
structure Grow (w : World) where
  val : World
  bel : Below w.heap.size w val
instance {w : World} : Nonempty (Grow w) := ⟨⟨w, Below.refl _ _⟩⟩
theorem wp_region_grow {P : Program} {id : Nat} {Q : Exit → Act → World → Prop} {a : Act} {w : World} {l : List Oper} (hm : P.follows .mixedOrders = true) (hB : Region.lexB .any l.toArray = true)
    (h : wpQuiet P l.toArray (fun W => ∃ X : Grow w, W = X.val) (fun a' => ∀ w', (∃ X : Grow w, w' = X.val) → Q .normal a' w') l a) : (Code.region id l.toArray true).wp P Q a w :=
  wp_region_quiet (C := fun W => ∃ X : Grow w, W = X.val) hm hB ⟨⟨w.drew, Below.drew (Below.refl _ _)⟩, rfl⟩ (by simpa using h)
theorem Grow.cell {w : World} (X : Grow w) {p : Addr} {v : Value} (h : w.cell? p = some v) (hl : p.block < w.heap.size) : X.val.cell? p = some v := (X.bel.cell hl).trans h
theorem calls_grow {P : Program} {f : FuncId} {args : Array Value} {w : World} {v : Value} (h : ∀ W, Below w.heap.size w W → Calls P f args W fun e w' => e = .returned v ∧ Below W.heap.size W w') (X : Grow w) :
    Calls P f args X.val fun e w'' => e = .returned v ∧ ∃ Y : Grow w, w'' = Y.val :=
  (h X.val X.bel).mono fun _ w'' ⟨he, hb⟩ => ⟨he, ⟨w'', X.bel.trans (hb.mono X.bel.size)⟩, rfl⟩
theorem calls_same {P : Program} {f : FuncId} {args : Array Value} {w : World} {v : Value} (h : ∀ W, Below w.heap.size w W → Calls P f args W fun e w' => e = .returned v ∧ w' = W) (X : Grow w) :
    Calls P f args X.val fun e w'' => e = .returned v ∧ ∃ Y : Grow w, w'' = Y.val :=
  (h X.val X.bel).mono fun _ _ ⟨he, hb⟩ => ⟨he, X, hb⟩
end Go.Proofs.Ytendbipfmgnjkaa
/- HsA: Rows of hosts in the laws: sizes, copies, two that are the same. -/
namespace Go.Proofs.Ytendbipfmgnjkaa
set_option maxRecDepth 100000
open Go.RowKit BigFrame
attribute [local go_sem ↓] Go.wp_at_zero Go.wp_at_succ

theorem infoHost : (Try.prog.info? 73).map (fun i => (i.zero, i.size, i.bytes)) = some (some (.agg #[.int .i64 0, .bool false, .slice none 0 0]), 3, 40) := by kernel_rfl
set_option maxRecDepth 100000 in
set_option maxHeartbeats 2000000 in
theorem eqHostS_same (a b : Option Addr) (ra rb : List HoR) (ca cb : Nat) (w : World) (ha : HsRow w a ra) (hb : HsRow w b rb) (he : hms ra = hms rb) (hl : ra.length ≤ 9000000) (hp : ∀ r ∈ ra, r.h.us.length ≤ 9000000) :
    Calls Try.prog 34 #[.slice a ra.length ca, .slice b rb.length cb] w fun e w' => e = .returned (.bool true) ∧ Below w.heap.size w w' := by
  have hlen : rb.length = ra.length := by rw [← hms_len ra, ← hms_len rb, he]
  obtain ⟨n, hn⟩ : ∃ n, n = ra.length := ⟨_, rfl⟩
  have HN := Shut.mk (And.intro hn (hlen.trans hn.symm))
  rw [hlen, ← hn]
  rw [← hn] at hl
  have HA := Shut.mk ha
  have HB := Shut.mk hb
  have HE := Shut.mk (And.intro he hp)
  clear ha hb he hp hlen hn
  go_enter Try.func34, Try.ntmps34
  go_wp2_with fail
  go_loopw [5] (fun i wr => ∃ (k : Nat), i = .int .i64 k ∧ k ≤ n ∧ Shut (Below w.heap.size w wr)) (fun i _ => n - (intOf i).toNat)
  case atStart => exact ⟨0, rfl, Nat.zero_le _, ⟨Below.refl _ _⟩⟩
  case round =>
    obtain ⟨k, rfl, hk, HW⟩ := hrel
    by_cases hlt : k < n
    · have hka : k < ra.length := by have := HN.out.1; omega
      have hkb : k < rb.length := by have := HN.out.2; omega
      obtain ⟨b1, o1, r1, rfl, hr1, l1, hc1⟩ := hs_at HA.out HW.out hka
      obtain ⟨b2, o2, r2, rfl, hr2, l2, hc2⟩ := hs_at HB.out HW.out hkb
      have hsame : r1.h = r2.h := by
        have q : (hms ra)[k]'(by rw [hms_len]; exact hka) = (hms rb)[k]'(by rw [hms_len]; exact hkb) := by simp only [HE.out.1]
        simp only [hms, List.getElem_map] at q
        rw [hr1, hr2]
        exact q
      have hpl : r1.h.us.length ≤ 9000000 := by rw [hr1]; exact HE.out.2 _ (List.getElem_mem hka)
      have HC1 := Shut.mk hc1
      have HC2 := Shut.mk hc2
      clear hr1 hr2 hc1 hc2
      obtain ⟨H, rl1, rc1⟩ := r1
      obtain ⟨H2, rl2, rc2⟩ := r2
      dsimp only at hsame hpl HC1 HC2
      subst hsame
      have HEQ := Shut.mk (fun (x : World) (hx : Below wr.heap.size wr x) => eqHost_same H rl1 rl2 rc1 rc2 x (HC1.out x hx).2.2.2 (HC2.out x hx).2.2.2 hpl)
      obtain ⟨hid, hup, hus⟩ := H
      dsimp only [hov] at *
      obtain ⟨m, hm⟩ : ∃ m, m = hus.length := ⟨_, rfl⟩
      rw [← hm] at HEQ HC1 HC2
      have k0 : (0 : Int) ≤ (k : Int) := by omega
      have k1 : (k : Int) < (n : Int) := by omega
      clear hm hpl
      have p0 : ∀ X : Grow wr, X.val.cell? ⟨b1, o1 + k * 3, none⟩ = some (.int .i64 hid) := fun X => (HC1.out X.val X.bel).1
      have p1 : ∀ X : Grow wr, X.val.cell? ⟨b1, o1 + k * 3 + 1, none⟩ = some (.bool hup) := fun X => (HC1.out X.val X.bel).2.1
      have p2 : ∀ X : Grow wr, X.val.cell? ⟨b1, o1 + k * 3 + 2, none⟩ = some (.slice rl1 m rc1) := fun X => (HC1.out X.val X.bel).2.2.1
      have q0 : ∀ X : Grow wr, X.val.cell? ⟨b2, o2 + k * 3, none⟩ = some (.int .i64 hid) := fun X => (HC2.out X.val X.bel).1
      have q1 : ∀ X : Grow wr, X.val.cell? ⟨b2, o2 + k * 3 + 1, none⟩ = some (.bool hup) := fun X => (HC2.out X.val X.bel).2.1
      have q2 : ∀ X : Grow wr, X.val.cell? ⟨b2, o2 + k * 3 + 2, none⟩ = some (.slice rl2 m rc2) := fun X => (HC2.out X.val X.bel).2.2.1
      have HKQ := Shut.mk (fun X => calls_grow (w := wr) (fun W' (hb : Below wr.heap.size wr W') => HEQ.out W' hb) X)
      have HGR : Shut (∀ X : Grow wr, Below w.heap.size w X.val) := ⟨fun X => HW.out.trans (X.bel.mono HW.out.size)⟩
      go_wp2_with fail
      refine wp_region_grow (by kernel_rfl) (by kernel_rfl) ?_
      repeat (go_big_quiet_step (first | (go_at_call 62; with_reducible exact HKQ.out _)))
      refine wpQuiet_nil ?_
      rintro _ ⟨X, rfl⟩
      clear p0 p1 p2 q0 q1 q2
      go_wp2_with fail
      go_roundw
      case rel => exact ⟨k + 1, by go_num, by omega, ⟨HGR.out X⟩⟩
      case measure => simp [intOf]; omega
    · obtain rfl : n = k := by omega
      go_wp2_with fail
      go_ret
      exact ⟨rfl, HW.out⟩
end Go.Proofs.Ytendbipfmgnjkaa
/- HsB: Marks in rows of hosts. -/
namespace Go.Proofs.Ytendbipfmgnjkaa
set_option maxRecDepth 100000
open Go.RowKit BigFrame
attribute [local go_sem ↓] Go.wp_at_zero Go.wp_at_succ

/-- One cell of a host of such a row is turned. -/
theorem GW.cell3 {w : World} {g lo hi : Nat} {rs : List HoR} (h : GW HK w g rs lo hi) (j : Nat) (hj : j < rs.length) (f : Nat) (hf : f < 3) (v : Value) (r : HoR) (hc : hC r = (hC rs[j]).set f v) (hl : r.loc = rs[j].loc) (hi' : r.h.us = rs[j].h.us) : GW HK (w.setCell ⟨g, j * 3 + f, none⟩ v) g (rs.set j r) lo hi := by
  have hin : ∀ s t : HoR, s.h.us = t.h.us → HK.inn s = HK.inn t := fun s t e => by show unS s.h.us = unS t.h.us; rw [e]
  refine ⟨?_, h.glo, h.ghi, fun s hs => ?_, ?_⟩
  · have q := h.out.set (j * 3 + f) v (by rw [HK.cells_len]; show j * 3 + f < rs.length * 3; omega)
    have e : (HK.cells rs).set (j * 3 + f) v = HK.cells (rs.set j r) := by
      apply List.ext_getElem?
      intro i
      by_cases hi : i < rs.length * 3
      · obtain ⟨a, b, hb, rfl⟩ : ∃ a b, b < 3 ∧ i = a * 3 + b := ⟨i / 3, i % 3, by omega, by omega⟩
        have ha : a < rs.length := by omega
        have e2 : (HK.cells (rs.set j r))[a * 3 + b]? = (hC ((rs.set j r)[a]'(by rw [List.length_set]; exact ha)))[b]? := HK.cells_get (rs.set j r) a (by rw [List.length_set]; exact ha) b hb
        have e1 : (HK.cells rs)[a * 3 + b]? = (hC rs[a])[b]? := HK.cells_get rs a ha b hb
        rw [e2, List.getElem?_set, List.getElem_set]
        by_cases hja : j = a
        · subst hja
          rw [if_pos rfl, hc, List.getElem?_set, hC_len]
          by_cases hfb : f = b
          · subst hfb
            rw [if_pos rfl, if_pos rfl, HK.cells_len, if_pos (by show j * 3 + f < rs.length * 3; omega), if_pos hf]
          · rw [if_neg (by omega), if_neg hfb, e1]
        · rw [if_neg (by omega), if_neg hja, e1]
      · have l1 : (HK.cells rs).length = rs.length * 3 := HK.cells_len rs
        have l2 : (HK.cells (rs.set j r)).length = rs.length * 3 := by rw [HK.cells_len, List.length_set]; rfl
        rw [List.getElem?_eq_none (by rw [List.length_set, l1]; omega), List.getElem?_eq_none (by rw [l2]; omega)]
    rw [e] at q
    exact q
  · rcases List.mem_or_eq_of_mem_set hs with q | rfl
    · rcases h.rows s q with e | ⟨b, e, q1, q2, q3, q4⟩
      · exact .inl e
      · exact .inr ⟨b, e, q1, q2, q3, WCells.turned q4 (Turned.of_grown (gb_set' w g (j * 3 + f) v) (Nat.le_refl _) (Nat.lt_succ_self _)) (by omega)⟩
    · rcases h.rows rs[j] (List.getElem_mem hj) with e | ⟨b, e, q1, q2, q3, q4⟩
      · exact .inl ((hin _ _ hi').trans e)
      · exact .inr ⟨b, hl.trans e, q1, q2, q3, by rw [hin _ _ hi']; exact WCells.turned q4 (Turned.of_grown (gb_set' w g (j * 3 + f) v) (Nat.le_refl _) (Nat.lt_succ_self _)) (by omega)⟩
  · refine List.pairwise_iff_getElem.2 fun a b ha hb hab h1 h2 => ?_
    rw [List.length_set] at ha hb
    have q := List.pairwise_iff_getElem.1 h.apart a b ha hb hab
    have same : ∀ c (hcl : c < rs.length), HK.inn ((rs.set j r)[c]'(by rw [List.length_set]; exact hcl)) = HK.inn rs[c] ∧ HK.loc ((rs.set j r)[c]'(by rw [List.length_set]; exact hcl)) = HK.loc rs[c] := fun c hcl => by
      rw [List.getElem_set]
      split
      · rename_i e; subst e; exact ⟨hin _ _ hi', hl⟩
      · exact ⟨rfl, rfl⟩
    rw [(same a ha).1] at h1
    rw [(same b hb).1] at h2
    rw [(same a ha).2, (same b hb).2]
    exact q h1 h2
/-- The units of a host of such a row are turned, as many as there were. -/
theorem GW.units {w w' : World} {g lo hi b : Nat} {rs : List HoR} (h : GW HK w g rs lo hi) (j : Nat) (hj : j < rs.length) (us : List UnM) (hlen : us.length = rs[j].h.us.length) (hne : 0 < us.length)
    (hb : rs[j].loc = some ⟨b, 0, none⟩) (hbg : b ≠ g) (h1 : lo ≤ b) (h2 : b < hi) (hg : w.grownBy w' (some b)) (hw : WCells w' b (unS us)) :
    GW HK w' g (rs.set j ⟨⟨rs[j].h.id, rs[j].h.up, us⟩, rs[j].loc, rs[j].cap⟩) lo hi := by
  have t : Turned w w' b (b + 1) := Turned.of_grown hg (Nat.le_refl _) (Nat.lt_succ_self _)
  have hinn : ∀ r : HoR, 0 < r.h.us.length → HK.inn r ≠ [] := fun r hr e => by
    have := congrArg List.length (show unS r.h.us = [] from e)
    rw [unS_len] at this
    simp at this
    omega
  have hsame : ∀ c (hc : c < rs.length), c ≠ j → (rs.set j (⟨⟨rs[j].h.id, rs[j].h.up, us⟩, rs[j].loc, rs[j].cap⟩ : HoR))[c]'(by rw [List.length_set]; exact hc) = rs[c] := fun c hc hcj => by rw [List.getElem_set_ne (Ne.symm hcj)]
  have hap : ∀ c (hc : c < rs.length), c ≠ j → HK.inn rs[c] ≠ [] → rs[c].loc ≠ rs[j].loc := fun c hc hcj h3 => by
    have hj0 : HK.inn rs[j] ≠ [] := hinn _ (by omega)
    rcases Nat.lt_or_gt_of_ne hcj with e | e
    · exact List.pairwise_iff_getElem.1 h.apart c j hc hj e h3 hj0
    · exact (List.pairwise_iff_getElem.1 h.apart j c hj hc e hj0 h3).symm
  refine ⟨?_, h.glo, h.ghi, fun s hs => ?_, ?_⟩
  · have e : HK.cells (rs.set j ⟨⟨rs[j].h.id, rs[j].h.up, us⟩, rs[j].loc, rs[j].cap⟩) = HK.cells rs := by
      apply List.ext_getElem?
      intro i
      by_cases hi : i < rs.length * 3
      · obtain ⟨a, c, hc, rfl⟩ : ∃ a c, c < 3 ∧ i = a * 3 + c := ⟨i / 3, i % 3, by omega, by omega⟩
        have ha : a < rs.length := by omega
        have e2 : (HK.cells (rs.set j (⟨⟨rs[j].h.id, rs[j].h.up, us⟩, rs[j].loc, rs[j].cap⟩ : HoR)))[a * 3 + c]? = (hC ((rs.set j (⟨⟨rs[j].h.id, rs[j].h.up, us⟩, rs[j].loc, rs[j].cap⟩ : HoR))[a]'(by rw [List.length_set]; exact ha)))[c]? := HK.cells_get _ a (by rw [List.length_set]; exact ha) c hc
        have e1 : (HK.cells rs)[a * 3 + c]? = (hC rs[a])[c]? := HK.cells_get rs a ha c hc
        rw [e2, e1, List.getElem_set]
        split
        · rename_i e; subst e; unfold hC; dsimp only; rw [hlen]
        · rfl
      · have l1 : (HK.cells rs).length = rs.length * 3 := HK.cells_len rs
        have l2 : (HK.cells (rs.set j (⟨⟨rs[j].h.id, rs[j].h.up, us⟩, rs[j].loc, rs[j].cap⟩ : HoR))).length = rs.length * 3 := by rw [HK.cells_len, List.length_set]; rfl
        rw [List.getElem?_eq_none (by rw [l2]; omega), List.getElem?_eq_none (by rw [l1]; omega)]
    rw [e]
    exact h.out.turned t (by omega)
  · obtain ⟨c, hc, rfl⟩ := List.getElem_of_mem hs
    have hc' : c < rs.length := by rw [List.length_set] at hc; exact hc
    by_cases hcj : c = j
    · subst hcj
      rw [List.getElem_set_self]
      exact .inr ⟨b, hb, h1, h2, hbg, hw⟩
    · rw [hsame c hc' hcj]
      rcases h.rows rs[c] (List.getElem_mem hc') with e | ⟨q, e, q1, q2, q3, q4⟩
      · exact .inl e
      · by_cases hq : HK.inn rs[c] = []
        · exact .inl hq
        · have hqb : q ≠ b := fun e2 => hap c hc' hcj hq (by
            have e3 : rs[c].loc = some ⟨q, 0, none⟩ := e
            rw [e3, hb, e2])
          exact .inr ⟨q, e, q1, q2, q3, q4.turned t (by omega)⟩
  · refine List.pairwise_iff_getElem.2 fun c d hc9 hd9 hcd h3 h4 => ?_
    have hc : c < rs.length := by rw [List.length_set] at hc9; exact hc9
    have hd : d < rs.length := by rw [List.length_set] at hd9; exact hd9
    have loc : ∀ z (hz : z < rs.length), HK.loc ((rs.set j (⟨⟨rs[j].h.id, rs[j].h.up, us⟩, rs[j].loc, rs[j].cap⟩ : HoR))[z]'(by rw [List.length_set]; exact hz)) = rs[z].loc := fun z hz => by
      rw [List.getElem_set]
      split
      · rename_i e; subst e; rfl
      · rfl
    rw [loc c hc, loc d hd]
    by_cases ec : c = j
    · subst ec
      rw [hsame d hd (by omega)] at h4
      exact (hap d hd (by omega) h4).symm
    · rw [hsame c hc ec] at h3
      by_cases ed : d = j
      · subst ed
        exact hap c hc ec h3
      · rw [hsame d hd ed] at h4
        exact List.pairwise_iff_getElem.1 h.apart c d hc hd hcd h3 h4
theorem mod3 (c : Nat) : ((c : Int).tmod 3 == 0) = (c % 3 == 0) := by
  have : (c : Int).tmod 3 = ((c % 3 : Nat) : Int) := by
    rw [Int.tmod_eq_emod_of_nonneg (by omega)]
    omega
  rw [this]
  cases h : c % 3 == 0 with
  | true => simp at h ⊢; omega
  | false => simp at h ⊢; omega
set_option maxRecDepth 100000 in
set_option maxHeartbeats 4000000 in
theorem markHostS_all (g : Nat) (rs : List HoR) (k9 ca lo hi : Nat) (w : World) (ha : GW HK w g rs lo hi) (hcp : ∀ r ∈ rs, r.h.us.length ≤ r.cap) (hk : 0 < k9) (hn : endH k9 (hms rs) ≤ 1000000000) :
    Calls Try.prog 37 #[.slice (some ⟨g, 0, none⟩) rs.length ca, .int .i64 k9] w fun e w' => e = .returned (.int .i64 (endH k9 (hms rs) : Nat)) ∧ ∃ ys : List HoR, ys.length = rs.length ∧ hms ys = marksH k9 (hms rs) ∧ (∀ r ∈ ys, r.h.us.length ≤ r.cap) ∧ GW HK w' g ys lo hi ∧ Turned w w' lo hi := by
  obtain ⟨n, hnn⟩ : ∃ n, n = rs.length := ⟨_, rfl⟩
  have HN := Shut.mk hnn
  obtain ⟨hs, hhs⟩ : ∃ q, q = hms rs := ⟨_, rfl⟩
  rw [← hnn, ← hhs]
  rw [← hhs] at hn
  have HHS := Shut.mk hhs
  have HA := Shut.mk ha
  have HCP := Shut.mk hcp
  have HL : Shut (hs.length = n) := ⟨by rw [hhs, hms_len, hnn]⟩
  have HEN : Shut (∀ j, endH k9 (hs.take j) ≤ endH k9 hs ∧ k9 ≤ endH k9 (hs.take j)) := ⟨fun j => by
    rw [endH_eq, endH_eq]
    have e1 : hs.length = (hs.take j).length + (hs.drop j).length := by rw [← List.length_append, List.take_append_drop]
    have e2 : (hs.map fun h => h.us.length).sum = ((hs.take j).map fun h => h.us.length).sum + ((hs.drop j).map fun h => h.us.length).sum := by rw [← List.sum_append, ← List.map_append, List.take_append_drop]
    omega⟩
  have hl : n ≤ 1000000000 := by have := endH_eq k9 hs; have := HL.out; omega
  clear ha hcp hnn hhs
  go_enter Try.func37, Try.ntmps37
  go_wp2_with fail
  go_loopw [1, 5] (fun v i wr => ∃ (j c : Nat) (ys : List HoR), i = .int .i64 j ∧ v = .int .i64 c ∧ j ≤ n ∧ Shut (c = endH k9 (hs.take j)) ∧ Shut (ys.length = n ∧ (∀ r ∈ ys, r.h.us.length ≤ r.cap) ∧ (∀ t (ht : t < n) (hy : t < ys.length) (hm : t < (marksH k9 hs).length), t < j → ys[t].h = (marksH k9 hs)[t]) ∧ (∀ t, j ≤ t → ys[t]? = rs[t]?)) ∧ Shut (GW HK wr g ys lo hi ∧ Turned w wr lo hi)) (fun _ i _ => n - (intOf i).toNat)
  case atStart => exact ⟨0, k9, rs, rfl, rfl, Nat.zero_le _, ⟨by simp [endH]⟩, ⟨HN.out.symm, HCP.out, fun t _ _ _ ht => by omega, fun t _ => rfl⟩, ⟨HA.out, Turned.refl _ _ _⟩⟩
  case round =>
    obtain ⟨j, c, ys, rfl, rfl, hj, HC, HY, HW⟩ := hrel
    by_cases hlt : j < n
    · have j0 : (0 : Int) ≤ (j : Int) := by omega
      have j1 : (j : Int) < (n : Int) := by omega
      have hjy : j < ys.length := by have := HY.out.1; omega
      have hjr : j < rs.length := by have := HN.out; omega
      have hyr : ys[j] = rs[j] := by
        have q := HY.out.2.2.2 j (Nat.le_refl _)
        rw [List.getElem?_eq_getElem hjy, List.getElem?_eq_getElem hjr] at q
        exact Option.some.inj q
      have hjs : j < hs.length := by have := HL.out; omega
      have hsj : hs[j] = ys[j].h := by rw [hyr]; simp [HHS.out, hms]
      have hcb : c + 2 + 4 * ys[j].h.us.length ≤ 1000000000 := by
        have q1 := HEN.out (j + 1)
        rw [endH_take k9 hs j hjs, ← HC.out, hsj] at q1
        omega
      have HNX : Shut (c + 2 + 4 * ys[j].h.us.length = endH k9 (hs.take (j + 1))) := ⟨by rw [endH_take k9 hs j hjs, ← HC.out, hsj]⟩
      have hc0 : 0 < c := by have := (HEN.out j).2; have := HC.out; omega
      obtain ⟨y, hy⟩ : ∃ y, y = ys[j] := ⟨_, rfl⟩
      have hw0 := HW.out.1.out
      obtain ⟨c0, z0⟩ := hw0.2 (j * 3) _ (HK.cells_get ys j hjy 0 (by decide))
      obtain ⟨c1, z1⟩ := hw0.2 (j * 3 + 1) _ (HK.cells_get ys j hjy 1 (by decide))
      obtain ⟨c2, z2⟩ := hw0.2 (j * 3 + 2) _ (HK.cells_get ys j hjy 2 (by decide))
      rw [← hy] at hcb HNX
      obtain ⟨q, hq⟩ : ∃ q, q = ((c + 1) % 3 == 0) := ⟨_, rfl⟩
      have hq2 : (((c : Int) + 1) % 3 == 0) = q := by
        rw [hq, ← mod3, Int.tmod_eq_emod_of_nonneg (by omega)]
        push_cast
        rfl
      have HG1 : Shut (GW HK (wr.setCell ⟨g, j * 3, none⟩ (.int .i64 c)) g (ys.set j ⟨⟨c, y.h.up, y.h.us⟩, y.loc, y.cap⟩) lo hi) := ⟨by
        have k := HW.out.1.cell3 j hjy 0 (by decide) (.int .i64 c) ⟨⟨c, y.h.up, y.h.us⟩, y.loc, y.cap⟩ (by rw [hy]; rfl) (by rw [hy]) (by rw [hy])
        rw [Nat.add_zero] at k
        exact k⟩
      have HG2 : Shut (GW HK ((wr.setCell ⟨g, j * 3, none⟩ (.int .i64 c)).setCell ⟨g, j * 3 + 1, none⟩ (.bool q)) g (ys.set j ⟨⟨c, q, y.h.us⟩, y.loc, y.cap⟩) lo hi) := ⟨by
        have k := HG1.out.cell3 j (by rw [List.length_set]; exact hjy) 1 (by decide) (.bool q) ⟨⟨c, q, y.h.us⟩, y.loc, y.cap⟩ (by rw [List.getElem_set_self]; rfl) (by rw [List.getElem_set_self]) (by rw [List.getElem_set_self])
        rw [List.set_set] at k
        exact k⟩
      have HT2 : Shut (Turned w ((wr.setCell ⟨g, j * 3, none⟩ (.int .i64 c)).setCell ⟨g, j * 3 + 1, none⟩ (.bool q)) lo hi) := ⟨(HW.out.2.trans (Turned.of_grown (gb_set' _ g _ _) HW.out.1.glo HW.out.1.ghi)).trans (Turned.of_grown (gb_set' _ g _ _) HW.out.1.glo HW.out.1.ghi)⟩
      have HMK : Shut (∀ m, m = y.h.us.length → (⟨(c : Nat), q, marksU (c + 2) m⟩ : HM) = (marksH k9 hs)[j]'(by rw [marksH_len]; exact hjs)) := ⟨fun m hm => by rw [marksH_at k9 hs j hjs, ← HC.out, hq, hm, hsj, ← hy]⟩
      have HCY : Shut (y.h.us.length ≤ y.cap) := ⟨by rw [hy]; exact HY.out.2.1 _ (List.getElem_mem hjy)⟩
      have HDONE : Shut (∀ (m : Nat) (r : HoR), m = y.h.us.length → r.h = ⟨(c : Nat), q, marksU (c + 2) m⟩ → r.cap = y.cap → ((ys.set j r).length = n ∧ (∀ s ∈ ys.set j r, s.h.us.length ≤ s.cap) ∧ (∀ t (ht : t < n) (h1 : t < (ys.set j r).length) (hm : t < (marksH k9 hs).length), t < j + 1 → (ys.set j r)[t].h = (marksH k9 hs)[t]) ∧ (∀ t, j + 1 ≤ t → (ys.set j r)[t]? = rs[t]?))) := ⟨fun m r hm hr hrc => ⟨by rw [List.length_set]; exact HY.out.1, fun s hs9 => by
          rcases List.mem_or_eq_of_mem_set hs9 with e | rfl
          · exact HY.out.2.1 s e
          · rw [hr, hrc]; show (marksU (c + 2) m).length ≤ y.cap; rw [marksU_len, hm]; exact HCY.out, fun t ht h1 h2 htj => by
          rw [List.length_set] at h1
          rw [List.getElem_set]
          split
          · rename_i e; subst e; rw [hr]; exact HMK.out m hm
          · exact HY.out.2.2.1 t ht h1 h2 (by omega), fun t ht => by rw [List.getElem?_set_ne (by omega)]; exact HY.out.2.2.2 t (by omega)⟩⟩
      obtain ⟨m, hm⟩ : ∃ m, m = y.h.us.length := ⟨_, rfl⟩
      have at9 : ∀ (r : HoR) (W : World), GW HK W g (ys.set j r) lo hi → ∀ f v, f < 3 → (hC r)[f]? = some v → W.cell? ⟨g, j * 3 + f, none⟩ = some v ∧ W.frozen? ⟨g, j * 3 + f, none⟩ = false := fun r W h f v hf hv => h.out.2 (j * 3 + f) v (by
        have k := HK.cells_get (ys.set j r) j (by rw [List.length_set]; exact hjy) f hf
        rw [List.getElem_set_self] at k
        exact k.trans hv)
      obtain ⟨a1, b1⟩ := at9 _ _ HG1.out 1 _ (by omega) rfl
      obtain ⟨a2, b2⟩ := at9 _ _ HG2.out 2 _ (by omega) rfl
      have HROW : Shut (y.h.us = [] ∨ ∃ b, y.loc = some ⟨b, 0, none⟩ ∧ lo ≤ b ∧ b < hi ∧ b ≠ g ∧ WCells ((wr.setCell ⟨g, j * 3, none⟩ (.int .i64 c)).setCell ⟨g, j * 3 + 1, none⟩ (.bool q)) b (unS y.h.us)) := ⟨by
        rcases HG2.out.rows ⟨⟨c, q, y.h.us⟩, y.loc, y.cap⟩ (List.mem_set hjy _) with e | h
        · left
          have e1 : unS y.h.us = [] := e
          have e3 := congrArg List.length e1
          rw [unS_len] at e3
          exact List.eq_nil_of_length_eq_zero (by simp at e3; omega)
        · exact .inr h⟩
      have HCW : Shut (((c + 2 : Nat) : Int) = (c : Int) + 1 + 1) := ⟨by omega⟩
      rw [← hm] at a2 hcb HNX
      have HM9 := Shut.mk hm
      have HSS : Shut (∀ us9, (ys.set j (⟨⟨c, q, y.h.us⟩, y.loc, y.cap⟩ : HoR)).set j ⟨⟨c, q, us9⟩, y.loc, y.cap⟩ = ys.set j ⟨⟨c, q, us9⟩, y.loc, y.cap⟩) := ⟨fun us9 => by rw [List.set_set]⟩
      have HGJ : Shut ((ys.set j (⟨⟨c, q, y.h.us⟩, y.loc, y.cap⟩ : HoR))[j]'(by rw [List.length_set]; exact hjy) = ⟨⟨c, q, y.h.us⟩, y.loc, y.cap⟩) := ⟨List.getElem_set_self _⟩
      have hlj : j < (ys.set j (⟨⟨c, q, y.h.us⟩, y.loc, y.cap⟩ : HoR)).length := by rw [List.length_set]; exact hjy
      clear hw0 c1 z1 c2 z2 at9 hq hm hyr hsj hy
      by_cases hm0 : m = 0
      · have HZ := Shut.mk (fun W => markUnitS_zero y.loc (c + 2) y.cap W)
        simp only [HCW.out] at HZ
        have HNIL : Shut (y.h.us = []) := ⟨List.eq_nil_of_length_eq_zero (by have := HM9.out; omega)⟩
        subst hm0
        go_wp2_with (go_at_call 66; refine (HZ.out _).mono ?_; rintro e w3 ⟨rfl, hw3⟩; subst hw3)
        go_roundw
        case rel => exact ⟨j + 1, c + 2, ys.set j ⟨⟨c, q, []⟩, y.loc, y.cap⟩, by go_num, congrArg (Value.int .i64) (by omega), by omega, ⟨by have := HNX.out; omega⟩, ⟨HDONE.out 0 _ HM9.out rfl rfl⟩, ⟨by have k := HG2.out; rw [HNIL.out] at k; exact k, HT2.out⟩⟩
        case measure => simp [intOf]; omega
      · obtain ⟨b, hb, hb1, hb2, hbg, hbw⟩ : ∃ b, y.loc = some ⟨b, 0, none⟩ ∧ lo ≤ b ∧ b < hi ∧ b ≠ g ∧ WCells ((wr.setCell ⟨g, j * 3, none⟩ (.int .i64 c)).setCell ⟨g, j * 3 + 1, none⟩ (.bool q)) b (unS y.h.us) := by
          rcases HROW.out with e | h
          · exact absurd (by have := HM9.out; rw [e] at this; exact this) hm0
          · exact h
        have HMU := Shut.mk (markUnitS_all b y.h.us (c + 2) y.cap _ hbw (by omega) (by have := HM9.out; omega) HCY.out)
        rw [← HM9.out, ← hb, HCW.out] at HMU
        have HBB := Shut.mk (And.intro hb (And.intro hb1 (And.intro hb2 hbg)))
        clear hbw hb hb1 hb2 hbg
        go_wp2_with (go_at_call 66; refine HMU.out.mono ?_; rintro e w3 ⟨rfl, hw3, hg3⟩; have HW3 := Shut.mk (And.intro hw3 hg3); clear hw3 hg3)
        have HG3 : Shut (GW HK w3 g (ys.set j ⟨⟨c, q, marksU (c + 2) m⟩, y.loc, y.cap⟩) lo hi ∧ Turned w w3 lo hi) := ⟨by
          have k := HG2.out.units j hlj (marksU (c + 2) m) (by rw [marksU_len, HGJ.out]; exact HM9.out) (by rw [marksU_len]; omega) (b := b) (by rw [HGJ.out]; exact HBB.out.1) HBB.out.2.2.2 HBB.out.2.1 HBB.out.2.2.1 HW3.out.2 HW3.out.1
          rw [HGJ.out] at k
          dsimp only at k
          rw [HSS.out] at k
          exact ⟨k, HT2.out.trans (Turned.of_grown HW3.out.2 HBB.out.2.1 HBB.out.2.2.1)⟩⟩
        go_roundw
        case rel => exact ⟨j + 1, c + 2 + 4 * m, ys.set j ⟨⟨c, q, marksU (c + 2) m⟩, y.loc, y.cap⟩, by go_num, rfl, by omega, HNX, ⟨HDONE.out m _ HM9.out rfl rfl⟩, HG3⟩
        case measure => simp [intOf]; omega
    · obtain rfl : n = j := by omega
      have HE : Shut (c = endH k9 hs) := ⟨by rw [HC.out, List.take_of_length_le (by rw [HL.out]; exact Nat.le_refl _)]⟩
      have HM : Shut (hms ys = marksH k9 hs) := ⟨by
        apply List.ext_getElem
        · rw [hms_len, marksH_len, HL.out, HY.out.1]
        · intro t h1 h2
          rw [hms_len] at h1
          have q := HY.out.2.2.1 t (by have := HY.out.1; omega) h1 h2 (by have := HY.out.1; omega)
          simp only [hms, List.getElem_map]
          exact q⟩
      go_wp2_with fail
      go_ret
      exact ⟨by rw [HE.out]; rfl, ys, HY.out.1, HM.out, HY.out.2.1, HW.out.1, HW.out.2⟩
end Go.Proofs.Ytendbipfmgnjkaa
/- OwS: A row of one's own that is made longer, beside stretches of memory. -/
namespace Go.Proofs.Ytendbipfmgnjkaa
set_option maxRecDepth 100000
open Go.RowKit

structure OwS (w0 W : World) (S : List Str) (ty sz : Nat) (v : Value) (n : Nat) (L : List Value) : Prop where
  sl : SL w0 W S
  own : W.ownsRow w0.heap.size ty sz v n L
  far : ∀ q, v.ownBlock = some q → ∀ s ∈ S, s.hi ≤ q ∨ q < s.lo
section
variable {w0 W W' : World} {S : List Str} {s : Str} {ty sz n : Nat} {v : Value} {L : List Value}
theorem own_row_slice (h : W.ownsRow w0.heap.size ty sz v n L) : ∃ a c, v = .slice a n c := by
  rcases h.2 with ⟨rfl, h0⟩ | ⟨g, cap, cur, e, _⟩
  · exact ⟨none, 0, by rw [h0]⟩
  · exact ⟨_, _, e⟩
theorem OwS.new (h : SL w0 W S) : OwS w0 (W.alloc (.cells #[] ty)) S ty sz (.slice (some ⟨W.heap.size, 0, none⟩) 0 0) 0 [] := by
  refine ⟨h.below ((Below.refl _ _).alloc (Nat.le_refl _) _), World.ownsRow_made (e := ty) (size := sz) (base := w0.heap.size) W #[] 0 h.bel.size (by decide) (by simp), fun q e s hs => ?_⟩
  have eq : W.heap.size = q := by simpa [Value.ownBlock] using e
  have := (h.is s hs).2.2.2
  omega
theorem OwS.nil (h : SL w0 W S) : OwS w0 W S ty sz (.slice none 0 0) 0 [] := ⟨h, World.ownsRow_nil _ _ _ _, fun q e => by cases e⟩
theorem OwS.below (h : OwS w0 W S ty sz v n L) (hb : Below W.heap.size W W') : OwS w0 W' S ty sz v n L :=
  ⟨h.sl.below hb, h.own.kept (row := none) ⟨hb.os, hb.tape, hb.output, hb.size, fun k hk _ => hb.block k hk⟩ (Classical.em _), h.far⟩
theorem OwS.alloc (h : OwS w0 W S ty sz v n L) (o : Obj) : OwS w0 (W.alloc o) S ty sz v n L := h.below ((Below.refl _ _).alloc (Nat.le_refl _) o)
theorem OwS.lt (h : OwS w0 W S ty sz v n L) (q : Nat) (e : v.ownBlock = some q) : w0.heap.size ≤ q ∧ q < W.heap.size := h.own.lt q e
theorem OwS.add (h : OwS w0 W S ty sz v n L) (hb : Below W.heap.size W W') (hp : s.p W') (hl : s.Loc) (h1 : W.heap.size ≤ s.lo) (h2 : s.hi ≤ W'.heap.size) : OwS w0 W' (s :: S) ty sz v n L := by
  have k := h.below hb
  refine ⟨h.sl.add hb hp hl h1 h2, k.own, fun q e x hx => ?_⟩
  rcases List.mem_cons.1 hx with rfl | hx
  · exact .inr (by have := (h.lt q e).2; omega)
  · exact h.far q e x hx
theorem OwS.box (h : OwS w0 W S ty sz v n L) (cs : Array Value) (t : TypeId) : OwS w0 (W.alloc (.cells cs t)) (bxS W.heap.size cs.toList :: S) ty sz v n L :=
  h.add ((Below.refl _ _).alloc (Nat.le_refl _) _) (wcells_new W cs t) (bxS.loc _ _) (Nat.le_refl _) (by simp)
theorem OwS.tail (h : OwS w0 W (s :: S) ty sz v n L) : OwS w0 W S ty sz v n L := ⟨h.sl.tail, h.own, fun q e x hx => h.far q e x (List.mem_cons_of_mem _ hx)⟩
theorem OwS.put (h : OwS w0 W S ty sz v n L) (i : Nat) {b : Nat} {X : List Value} (hs : S[i]? = some (bxS b X)) (j : Nat) (x : Value) (hj : j < X.length) : OwS w0 (W.setCell ⟨b, j, none⟩ x) (S.set i (bxS b (X.set j x))) ty sz v n L := by
  have hm := List.mem_of_getElem? hs
  have hne : ∀ q, v.ownBlock = some q → q ≠ b := fun q e hq => by
    have := h.far q e _ hm
    dsimp only [bxS] at this
    omega
  refine ⟨h.sl.put i hs j x hj, h.own.kept (gb_set' W b j x) ?_, fun q e s hq => ?_⟩
  · cases e : v.ownBlock with
    | none => exact .inl rfl
    | some k => exact .inr fun e2 => hne k e (by cases e2; rfl)
  · obtain ⟨k, hk, rfl⟩ := List.getElem_of_mem hq
    rw [List.length_set] at hk
    by_cases ek : k = i
    · subst ek
      rw [List.getElem_set_self]
      have := h.far q e _ hm
      exact this
    · rw [List.getElem_set_ne (Ne.symm ek)]
      exact h.far q e _ (List.getElem_mem hk)
/-- More is put behind it. -/
theorem OwS.more {Wa : World} {v' : Value} {m : Nat} {L' : List Value} (h : OwS w0 W S ty sz v n L) (hb : Below W.heap.size W Wa) (ho : W'.ownsRow w0.heap.size ty sz v' m L') (hg : Wa.grownBy W' v.ownBlock) (hat : v'.ownBlock = v.ownBlock ∨ v'.ownBlock = some Wa.heap.size) : OwS w0 W' S ty sz v' m L' := by
  have k := h.below hb
  refine ⟨k.sl.grown hg fun q e => ⟨(k.lt q e).1, k.far q e⟩, ho, fun q e s hs => ?_⟩
  rcases hat with e2 | e2
  · exact h.far q (by rw [← e2]; exact e) s hs
  · rw [e2] at e
    have eq : Wa.heap.size = q := by simpa using e
    have := (k.sl.is s hs).2.2.2
    omega
theorem OwS.frw (h : OwS w0 W S ty sz v n L) : ∃ a c, v = .slice a n c ∧ FRw W a L w0.heap.size W.heap.size ∧ n ≤ c := by
  obtain ⟨a, c, rfl⟩ := own_row_slice h.own
  exact ⟨a, c, rfl, (FRw.of_own h.own).1, (FRw.of_own h.own).2⟩
theorem OwS.row (h : OwS w0 W S ty sz v n L) : ∃ a c, v = .slice a n c ∧ CRow W a L ∧ n ≤ c := by
  obtain ⟨a, c, e, h1, h2⟩ := h.frw
  exact ⟨a, c, e, h1.crow, h2⟩
end
end Go.Proofs.Ytendbipfmgnjkaa
/- ApRow: 'append' of a whole row, empty or not, to a row of one's own; and one element more, beside stretches. -/
namespace Go.Proofs.Ytendbipfmgnjkaa
set_option maxRecDepth 100000
open Go.RowKit

theorem wpList_append_row {P : Program} (w : World) {ops : Array Oper} {rest : List Oper} {o : Oper} {a : Act} {Q : Exit → Act → World → Prop} (hgd : o.guard = none) (s x : Operand) (t : TypeId)
    (ho : o.op = .call { callee := .builtin .append, args := #[s, x], argTypes := #[t, t] })
    (base : Nat) (e : TypeId) (i : TypeInfo) (z : Value) (size bytes : Nat) (ht : P.underlying t = some (.slice e)) (hi : P.info? e = some i) (hz : i.zero = some z)
    (hsize : i.size = size) (hby : i.bytes = bytes) (hzs : z.cells.size = size) (hsz : 0 < size)
    (v : Value) (n : Nat) (xs : List Value) (hs : a.eval s = v) (hown : w.ownsRow base e size v n xs)
    (ra : Option Addr) (m c : Nat) (news : List Value) (hx : a.eval x = .slice ra m c) (hl : news.length = m * size) (hrow : CRow w ra news) (h1 : ∀ u ∈ news, u.oneCell' = true)
    (h63 : n + m ≤ maxLen) (hbytes : (n + m) * bytes ≤ 140737488355328) (hbase : base ≤ w.heap.size)
    (h : ∀ v' w', w'.ownsRow base e size v' (n + m) (xs ++ news) → w.grownBy w' v.ownBlock → (v'.ownBlock = v.ownBlock ∨ v'.ownBlock = some w.heap.size) → wpList P ops Q rest (a.put o.dst v') w') :
    wpList P ops Q (o :: rest) a w := by
  by_cases hm : m = 0
  · subst hm
    have hn : news = [] := List.eq_nil_of_length_eq_zero (by rw [hl]; simp)
    subst hn
    have hv : ∃ av cv, v = .slice av n cv ∧ n ≤ cv := by
      rcases hown.2 with ⟨rfl, h0⟩ | ⟨g, cap, cur, e1, _, _, h3, _⟩
      · exact ⟨none, 0, by rw [h0], by omega⟩
      · exact ⟨_, _, e1, h3⟩
    obtain ⟨av, cv, rfl, hcv⟩ := hv
    have hsrc : Src P i.size t (.slice ra 0 c) 0 [] w := by
      cases ra with
      | none => exact Src.ofNil w ht c
      | some q => exact Src.ofSlice w ht q 0 c [] (by simp) (by simp) (by simp)
    refine wpList_plain hgd fun K' hK' => ?_
    unfold Oper.wp
    simp [execOp, ho, resolve, invoke, builtin, hs, hx, run_append_nothing w t t o.type e i ht hi av n cv hcv _ hsrc, Result.andThen]
    exact hK' _ _ (h _ w (by simpa using hown) ⟨rfl, rfl, rfl, Nat.le_refl _, fun _ _ _ => rfl⟩ (.inl rfl))
  · obtain ⟨b, off, rfl, _, hc⟩ := hrow (by rw [hl]; exact Nat.mul_pos (Nat.pos_of_ne_zero hm) hsz)
    refine wpList_append_own_at _ hgd s x t ho base e i z size bytes ht hi hz hsize hby hzs hsz v n xs hs hown ⟨b, off, none⟩ m c news hx hl (fun j u hj => ?_) h1 h63 hbytes hbase (fun v' w' h2 h3 _ h5 => h v' w' h2 h3 h5)
    have e2 : (⟨b, off, none⟩ : Addr).add j = ⟨b, off + j, none⟩ := by cases j <;> simp [Addr.add]
    rw [e2]
    exact hc j u hj
end Go.Proofs.Ytendbipfmgnjkaa
/- WdN: A new world: the model's. -/
namespace Go.Proofs.Ytendbipfmgnjkaa
set_option maxRecDepth 100000
open Go.RowKit BigFrame
attribute [local go_sem ↓] Go.wp_at_zero Go.wp_at_succ

/-- Hosts that are up, without units. -/
def hosts9 (k : Nat) : List HM := (List.range k).map fun (j : Nat) => ⟨(j : Int) + 1, true, []⟩
def hrs9 (k : Nat) : List HoR := (List.range k).map fun (j : Nat) => ⟨⟨(j : Int) + 1, true, []⟩, none, 0⟩
theorem hrs9_len (k : Nat) : (hrs9 k).length = k := by simp [hrs9]
theorem hrs9_hms (k : Nat) : hms (hrs9 k) = hosts9 k := by simp [hms, hrs9, hosts9, Function.comp_def]
theorem hS_snoc (k : Nat) : hS (hrs9 (k + 1)) = hS (hrs9 k) ++ [.int .i64 ((k : Int) + 1), .bool true, .slice none 0 0] := by
  unfold hS hrs9 NK.cells
  rw [List.range_succ, List.map_append, List.flatMap_append]
  rfl
theorem hrs9_mem {k : Nat} {r : HoR} (h : r ∈ hrs9 k) : r.h.us = [] := by
  obtain ⟨j, _, rfl⟩ := List.mem_map.1 h
  rfl
theorem unS_nil : unS [] = [] := rfl
/-- A row of hosts without units, in a stretch. -/
theorem hsw9 {W : World} {a : Option Addr} {lo hi k : Nat} (h : FRw W a (hS (hrs9 k)) lo hi) (hk : 0 < k) : HsW W a (hrs9 k) lo hi := by
  refine ⟨fun r hr => by rw [hrs9_mem hr]; exact Nat.zero_le _, ?_⟩
  rcases h with ⟨_, e⟩ | ⟨g, e, h1, h2, hw⟩
  · have := hS_len (hrs9 k)
    rw [e, hrs9_len] at this
    simp at this
    omega
  · refine .inr ⟨g, e, ⟨hw, h1, h2, fun r hr => .inl (by show unS r.h.us = []; rw [hrs9_mem hr]; rfl), ?_⟩⟩
    refine List.pairwise_iff_getElem.2 fun i j hi hj _ h3 _ => ?_
    exact absurd (show unS _ = [] by rw [hrs9_mem (List.getElem_mem hi)]; rfl) h3
theorem infoHost9 : (Try.prog.info? 73).map (fun i => (i.zero, i.size, i.bytes)) = some (some (.agg #[.int .i64 0, .bool false, .slice none 0 0]), 3, 40) := by kernel_rfl
theorem OwS.rest {w0 W : World} {S : List Str} {ty sz n c : Nat} {b : Option Addr} {L : List Value} (h : OwS w0 W S ty sz (.slice b n c) n L) : n ≤ c ∧ ∃ lo hi, SL w0 W (rwS b L lo hi :: S) := by
  have hf := FRw.of_own h.own
  refine ⟨hf.2, ?_⟩
  rcases hf.1 with e | ⟨q, e1, e2, e3, e4⟩
  · refine ⟨W.heap.size, W.heap.size, ⟨h.sl.bel, fun s hs => ?_, List.pairwise_cons.2 ⟨fun s hs => .inr (h.sl.is s hs).2.2.2, h.sl.apart⟩⟩⟩
    rcases List.mem_cons.1 hs with rfl | hs
    · exact ⟨.inl e, rwS.loc _ _ _ _, h.sl.bel.size, Nat.le_refl _⟩
    · exact h.sl.is s hs
  · subst e1
    refine ⟨q, q + 1, ⟨h.sl.bel, fun s hs => ?_, List.pairwise_cons.2 ⟨fun s hs => by have := h.far q rfl s hs; dsimp only [rwS]; omega, h.sl.apart⟩⟩⟩
    rcases List.mem_cons.1 hs with rfl | hs
    · exact ⟨.inr ⟨q, rfl, Nat.le_refl _, Nat.lt_succ_self _, e4⟩, rwS.loc _ _ _ _, e2, e3⟩
    · exact h.sl.is s hs
theorem SL.as {w0 W : World} {s : Str} {S : List Str} {q : World → Prop} (h : SL w0 W (s :: S)) (hq : q W) (hl : Str.Loc ⟨q, s.lo, s.hi⟩) : SL w0 W (⟨q, s.lo, s.hi⟩ :: S) := by
  obtain ⟨h1, h2, h3⟩ := h
  obtain ⟨-, -, k1, k2⟩ := h2 _ (List.mem_cons_self ..)
  refine ⟨h1, fun x hx => ?_, List.pairwise_cons.2 ⟨(List.pairwise_cons.1 h3).1, (List.pairwise_cons.1 h3).2⟩⟩
  rcases List.mem_cons.1 hx with rfl | hx
  · exact ⟨hq, hl, k1, k2⟩
  · exact h2 x (List.mem_cons_of_mem _ hx)
theorem SL.less {w0 W : World} {S S' : List Str} (h : SL w0 W S) (hs : S'.Sublist S) : SL w0 W S' := ⟨h.bel, fun s k => h.is s (hs.subset k), h.apart.sublist hs⟩
/-- A new world that was answered: its hosts and its tree lie apart. -/
def WdNew (T : TM) (nx : Int) (w : World) (e : Ending) (w' : World) : Prop :=
  ∃ (ca da la hb ka ta za : Option Addr) (cm cc dc lc hc kc tc zc l1 h1 l2 h2 : Nat) (rs : List HoR), e = .returned (.agg #[.bool true, .slice ca cm cc, .int .i64 nx, .int .i64 1, .slice da 0 dc, .slice la 0 lc, .int .i64 0, .slice hb rs.length hc, .slice ka 0 kc, .slice ta 0 tc, .slice za 0 zc]) ∧ hms rs = hosts9 7 ∧ rs.length ≤ hc ∧ SL w w' [hsS hb rs l2 h2, trS (.agg #[.slice ca cm cc, .int .i64 nx]) T l1 h1]
set_option maxRecDepth 100000 in
set_option maxHeartbeats 8000000 in
theorem specWorldNew (w : World) : Calls Try.prog 11 #[] w fun e w' => WdNew newX newX.next w e w' := by
  obtain ⟨i0, hin, hz0, hz1, hz2⟩ := info_parts infoHost9
  have HSN := Shut.mk (fun (W : World) => specServerNew W)
  generalize newX.next = nx at *
  generalize newX = T at *
  unfold SvNew at HSN
  have HS := Shut.mk ((SL.start w).new #[.bool false, .slice none 0 0, .int .i64 0, .int .i64 0, .slice none 0 0, .slice none 0 0, .int .i64 0, .slice none 0 0, .slice none 0 0, .slice none 0 0, .slice none 0 0] 48)
  obtain ⟨b0, hb0⟩ : ∃ q, q = w.heap.size := ⟨_, rfl⟩
  go_enter Try.func11, Try.ntmps11
  go_upto_region 1 with fail
  rw [← hb0] at HS
  refine wp_shade (fun W => SL w W [bxS b0 [.bool false, .slice none 0 0, .int .i64 0, .int .i64 0, .slice none 0 0, .slice none 0 0, .int .i64 0, .slice none 0 0, .slice none 0 0, .slice none 0 0, .slice none 0 0]]) HS.out ?_
  intro W0 hS0
  rw [← hb0]
  have H := Shut.mk hS0
  clear hS0 HS hb0
  go_wp2_with fail
  refine (HSN.out _).mono ?_
  rintro e w1 ⟨ca, da, la, cm, cc, dc, lc, rfl, hA, hb⟩
  replace H := Shut.mk ((H.out.add (s := trS (.agg #[.slice ca cm cc, .int .i64 nx]) T W0.heap.size w1.heap.size) hb hA (trS.loc _ _ _ _) (Nat.le_refl _) (Nat.le_refl _)).new #[.bool true, .slice ca cm cc, .int .i64 nx, .int .i64 1, .slice da 0 dc, .slice la 0 lc, .int .i64 0, .slice none 0 0, .slice none 0 0, .slice none 0 0, .slice none 0 0] 48)
  obtain ⟨l1, hl1⟩ : ∃ q, q = W0.heap.size := ⟨_, rfl⟩
  obtain ⟨b1, hb1⟩ : ∃ q, q = w1.heap.size := ⟨_, rfl⟩
  rw [← hl1, ← hb1] at H
  clear hA hb hl1 HSN
  go_upto_region 2 with fail
  have HO := Shut.mk (OwS.nil (ty := 73) (sz := 3) H.out)
  refine wp_shade (fun W => OwS w W [bxS b1 [.bool true, .slice ca cm cc, .int .i64 nx, .int .i64 1, .slice da 0 dc, .slice la 0 lc, .int .i64 0, .slice none 0 0, .slice none 0 0, .slice none 0 0, .slice none 0 0], trS (.agg #[.slice ca cm cc, .int .i64 nx]) T l1 b1, bxS b0 [.bool false, .slice none 0 0, .int .i64 0, .int .i64 0, .slice none 0 0, .slice none 0 0, .int .i64 0, .slice none 0 0, .slice none 0 0, .slice none 0 0, .slice none 0 0]] 73 3 (.slice none 0 0) 0 []) HO.out ?_
  intro W1 hW
  rw [← hb1]
  replace H := Shut.mk hW
  clear hW HO hb1
  go_wp2_with fail
  go_loopw [2] (fun i wr => ∃ (k : Nat) (hb : Option Addr) (hc : Nat), i = .int .i64 ((k : Int) + 1) ∧ k ≤ 7 ∧ Shut (OwS w wr [bxS b1 [.bool true, .slice ca cm cc, .int .i64 nx, .int .i64 1, .slice da 0 dc, .slice la 0 lc, .int .i64 0, .slice hb k hc, .slice none 0 0, .slice none 0 0, .slice none 0 0], trS (.agg #[.slice ca cm cc, .int .i64 nx]) T l1 b1, bxS b0 [.bool false, .slice none 0 0, .int .i64 0, .int .i64 0, .slice none 0 0, .slice none 0 0, .int .i64 0, .slice none 0 0, .slice none 0 0, .slice none 0 0, .slice none 0 0]] 73 3 (.slice hb k hc) k (hS (hrs9 k)))) (fun i _ => 8 - (intOf i).toNat)
  case atStart => exact ⟨0, none, 0, rfl, by omega, ⟨H.out⟩⟩
  case round =>
    clear H
    obtain ⟨k, hb, hc, rfl, hk, H⟩ := hrel
    by_cases hlt : k < 7
    · have h7 : (k : Int) + 1 ≤ 7 := by omega
      have x7 := (H.out.sl.bx 0 rfl 7 _ rfl).1
      have hown := H.out.own
      have hsz : w.heap.size ≤ wr.heap.size := H.out.sl.bel.size
      have hcl : ∀ j u, ([.int .i64 ((k : Int) + 1), .bool true, .slice none 0 0] : List Value)[j]? = some u → (wr.alloc (.cells #[.int .i64 ((k : Int) + 1), .bool true, .slice none 0 0] 73)).cell? ((⟨wr.heap.size, 0, none⟩ : Addr).add j) = some u := fun j u hu => by
        have q := ((wcells_new wr #[.int .i64 ((k : Int) + 1), .bool true, .slice none 0 0] 73).2 j u hu).1
        cases j with
        | zero => exact q
        | succ j => simpa [Addr.add] using q
      have hone : ∀ u ∈ ([.int .i64 ((k : Int) + 1), .bool true, .slice none 0 0] : List Value), u.oneCell' = true := fun u hu => by
        simp only [List.mem_cons, List.not_mem_nil, or_false] at hu
        rcases hu with rfl | rfl | rfl <;> rfl
      go_wp2_with (at_builtin; go_loud (refine wpList_append_own_at _ rfl _ _ 44 rfl w.heap.size 73 i0 _ 3 40 Try.underlying44 hin hz0 hz1 hz2 rfl (by decide) _ _ _ rfl (hown.alloc _) ⟨wr.heap.size, 0, none⟩ 1 1 [.int .i64 ((k : Int) + 1), .bool true, .slice none 0 0] rfl rfl hcl hone (by unfold maxLen; omega) (by omega) (by rw [World.size_alloc]; omega) ?_))
      intro v9 w9 ho hg _ hat
      obtain ⟨b9, c9, rfl⟩ := own_row_slice ho
      have HS := Shut.mk (H.out.more (m := k + 1) (L' := hS (hrs9 (k + 1))) ((Below.refl _ _).alloc (Nat.le_refl _) (.cells #[.int .i64 ((k : Int) + 1), .bool true, .slice none 0 0] 73)) (by rw [hS_snoc k]; exact ho) hg (by rw [World.size_alloc]; exact hat))
      obtain ⟨z7, zf7⟩ := HS.out.sl.bx 0 rfl 7 _ rfl
      clear ho hg hat hown hsz hcl hone x7
      have HZ := Shut.mk (HS.out.put 0 rfl 7 (.slice b9 (k + 1) c9) (by simp))
      simp only [List.set_cons_zero, List.set_cons_succ] at HZ
      go_wp2_with fail
      go_roundw
      case rel => exact ⟨k + 1, b9, c9, by go_num, by omega, HZ⟩
      case measure => simp [intOf]; omega
    · obtain rfl : k = 7 := by omega
      have x0 := (H.out.sl.bx 0 rfl 0 _ rfl).1
      obtain ⟨r0, s0⟩ := H.out.sl.bx 2 rfl 0 _ rfl
      have x1 := (H.out.sl.bx 0 rfl 1 _ rfl).1
      obtain ⟨r1, s1⟩ := H.out.sl.bx 2 rfl 1 _ rfl
      have x2 := (H.out.sl.bx 0 rfl 2 _ rfl).1
      obtain ⟨r2, s2⟩ := H.out.sl.bx 2 rfl 2 _ rfl
      have x3 := (H.out.sl.bx 0 rfl 3 _ rfl).1
      obtain ⟨r3, s3⟩ := H.out.sl.bx 2 rfl 3 _ rfl
      have x4 := (H.out.sl.bx 0 rfl 4 _ rfl).1
      obtain ⟨r4, s4⟩ := H.out.sl.bx 2 rfl 4 _ rfl
      have x5 := (H.out.sl.bx 0 rfl 5 _ rfl).1
      obtain ⟨r5, s5⟩ := H.out.sl.bx 2 rfl 5 _ rfl
      have x6 := (H.out.sl.bx 0 rfl 6 _ rfl).1
      obtain ⟨r6, s6⟩ := H.out.sl.bx 2 rfl 6 _ rfl
      have x7 := (H.out.sl.bx 0 rfl 7 _ rfl).1
      obtain ⟨r7, s7⟩ := H.out.sl.bx 2 rfl 7 _ rfl
      have x8 := (H.out.sl.bx 0 rfl 8 _ rfl).1
      obtain ⟨r8, s8⟩ := H.out.sl.bx 2 rfl 8 _ rfl
      have x9 := (H.out.sl.bx 0 rfl 9 _ rfl).1
      obtain ⟨r9, s9⟩ := H.out.sl.bx 2 rfl 9 _ rfl
      have x10 := (H.out.sl.bx 0 rfl 10 _ rfl).1
      obtain ⟨r10, s10⟩ := H.out.sl.bx 2 rfl 10 _ rfl
      have HE := Shut.mk ((((((((((((H.out.put 2 rfl 0 (.bool true) (by simp)).put 2 rfl 1 (.slice ca cm cc) (by simp)).put 2 rfl 2 (.int .i64 nx) (by simp)).put 2 rfl 3 (.int .i64 1) (by simp)).put 2 rfl 4 (.slice da 0 dc) (by simp)).put 2 rfl 5 (.slice la 0 lc) (by simp)).put 2 rfl 6 (.int .i64 0) (by simp)).put 2 rfl 7 (.slice hb 7 hc) (by simp)).put 2 rfl 8 (.slice none 0 0) (by simp)).put 2 rfl 9 (.slice none 0 0) (by simp)).put 2 rfl 10 (.slice none 0 0) (by simp)))
      simp only [List.set_cons_zero, List.set_cons_succ] at HE
      obtain ⟨hc7, lo, hi, hrow⟩ := HE.out.rest
      have hsl := (hrow.as (q := fun W => HsW W hb (hrs9 7) lo hi) (hsw9 (hrow.is _ (List.mem_cons_self ..)).1 (by omega)) (hsS.loc _ _ _ _)).less (List.Sublist.cons_cons _ (List.Sublist.cons _ (List.Sublist.cons_cons _ (List.nil_sublist _))))
      have HX := Shut.mk hsl
      clear hrow hsl
      go_wp2_with fail
      refine bodyPost_ret (v := .agg #[.bool true, .slice ca cm cc, .int .i64 nx, .int .i64 1, .slice da 0 dc, .slice la 0 lc, .int .i64 0, .slice hb 7 hc, .slice none 0 0, .slice none 0 0, .slice none 0 0]) (by simp [results, Try.results11, go_sem, r0, r1, r2, r3, r4, r5, r6, r7, r8, r9, r10]) rfl ?_
      exact ⟨ca, da, la, hb, none, none, none, cm, cc, dc, lc, hc, 0, 0, 0, l1, b1, lo, hi, hrs9 7, by rw [hrs9_len], hrs9_hms 7, by rw [hrs9_len]; exact hc7, HX.out⟩
end Go.Proofs.Ytendbipfmgnjkaa
/- HsH: Marks in rows of hosts, found again. -/
namespace Go.Proofs.Ytendbipfmgnjkaa
set_option maxRecDepth 100000
open Go.RowKit BigFrame
attribute [local go_sem ↓] Go.wp_at_zero Go.wp_at_succ
set_option maxRecDepth 100000 in
set_option maxHeartbeats 2000000 in
theorem heldHostS_any (a : Option Addr) (rs : List HoR) (k9 ca : Nat) (hs : List HM) (w : World) (ha : HsRow w a rs) (he : hms rs = marksH k9 hs) (hk : 0 < k9) (hn : endH k9 hs ≤ 1000000000) :
    Calls Try.prog 42 #[.slice a rs.length ca, .int .i64 k9] w fun e w' => e = .returned (.int .i64 (endH k9 hs : Nat)) ∧ Below w.heap.size w w' := by
  have hlen : rs.length = hs.length := by rw [← hms_len rs, he, marksH_len]
  obtain ⟨n, hnn⟩ : ∃ n, n = rs.length := ⟨_, rfl⟩
  have HN := Shut.mk (And.intro hnn (hnn.trans hlen))
  rw [← hnn]
  have HA := Shut.mk ha
  have HE := Shut.mk he
  have HEN : Shut (∀ j, j ≤ n → endH k9 (hs.take j) ≤ endH k9 hs) := ⟨fun j _ => by
    rw [endH_eq, endH_eq]
    have e1 : hs.length = (hs.take j).length + (hs.drop j).length := by rw [← List.length_append, List.take_append_drop]
    have e2 : (hs.map fun h => h.us.length).sum = ((hs.take j).map fun h => h.us.length).sum + ((hs.drop j).map fun h => h.us.length).sum := by rw [← List.sum_append, ← List.map_append, List.take_append_drop]
    omega⟩
  have HLO : Shut (∀ j, k9 ≤ endH k9 (hs.take j)) := ⟨fun j => by rw [endH_eq]; omega⟩
  have hl : n ≤ 1000000000 := by have := endH_eq k9 hs; have := HN.out.2; omega
  clear ha he hnn hlen
  go_enter Try.func42, Try.ntmps42
  go_wp2_with fail
  go_loopw [1, 5] (fun v i wr => ∃ (k c : Nat), v = .int .i64 c ∧ i = .int .i64 k ∧ k ≤ n ∧ Shut (c = endH k9 (hs.take k)) ∧ Shut (Below w.heap.size w wr)) (fun _ i _ => n - (intOf i).toNat)
  case atStart => exact ⟨0, k9, rfl, rfl, Nat.zero_le _, ⟨by simp [endH]⟩, ⟨Below.refl _ _⟩⟩
  case round =>
    obtain ⟨k, c, rfl, rfl, hk, HC, HW⟩ := hrel
    by_cases hlt : k < n
    · have hka : k < rs.length := by have := HN.out.1; omega
      have hks : k < hs.length := by have := HN.out.2; omega
      obtain ⟨b, off, r, rfl, hre, lb, hc⟩ := hs_at HA.out HW.out hka
      have hrh : r.h = ⟨(c : Nat), (c + 1) % 3 == 0, marksU (c + 2) hs[k].us.length⟩ := by
        have q : (hms rs)[k]'(by rw [hms_len]; exact hka) = (marksH k9 hs)[k]'(by rw [marksH_len]; exact hks) := by simp only [HE.out]
        rw [marksH_at k9 hs k hks, ← HC.out] at q
        rw [← q, hre]
        simp [hms]
      have hcb : c + 2 + 4 * hs[k].us.length ≤ 1000000000 := by
        have q1 := HEN.out (k + 1) (by omega)
        rw [endH_take k9 hs k hks, ← HC.out] at q1
        omega
      have HNX : Shut (c + 2 + 4 * hs[k].us.length = endH k9 (hs.take (k + 1))) := ⟨by rw [endH_take k9 hs k hks, ← HC.out]⟩
      have hc0 : 0 < c := by have := HLO.out k; have := HC.out; omega
      obtain ⟨m, hm⟩ : ∃ m, m = hs[k].us.length := ⟨_, rfl⟩
      rw [← hm] at hrh hcb HNX
      have HRW := Shut.mk (fun (x : World) (hx : Below wr.heap.size wr x) => (hc x hx).2.2.2)
      obtain ⟨d0, d1, d2, -⟩ := hc wr (Below.refl _ _)
      obtain ⟨⟨rid, rup, rus⟩, loc, cp⟩ := r
      dsimp only at hrh d0 d1 d2 HRW
      obtain ⟨e0, e1, e2⟩ : rid = (c : Int) ∧ rup = ((c + 1) % 3 == 0) ∧ rus = marksU (c + 2) m := by
        simp only [HM.mk.injEq] at hrh
        exact hrh
      have hlm : rus.length = m := by rw [e2, marksU_len]
      obtain ⟨up, hup⟩ : ∃ q, q = ((c + 1) % 3 == 0) := ⟨_, rfl⟩
      have hq2 : (((c : Int) + 1) % 3 == 0) = up := by
        rw [hup, ← mod3, Int.tmod_eq_emod_of_nonneg (by omega)]
        push_cast
        rfl
      rw [hlm] at d2
      rw [e0] at d0
      rw [e1, ← hup] at d1
      rw [e2] at HRW
      have HUS : Shut (Calls Try.prog 71 #[.slice loc m cp, .int .i64 ((c : Int) + 2)] wr fun e w' => e = .returned (.int .i64 (c + 2 + 4 * m : Nat)) ∧ Below wr.heap.size wr w') := ⟨by
        have q := heldUnitS_any loc (c + 2) m cp wr (HRW.out wr (Below.refl _ _)) (by omega) hcb
        rwa [show ((c + 2 : Nat) : Int) = (c : Int) + 2 by omega] at q⟩
      have hw1 : IntKind.i64.wrap ((c : Int) + 1) = (c : Int) + 1 := IntWalk.i64_in _ ⟨by omega, by omega⟩
      have hw2 : IntKind.i64.wrap ((c : Int) + 1 + 1) = ((c + 2 : Nat) : Int) := by rw [IntWalk.i64_in _ ⟨by omega, by omega⟩]; omega
      have huu : (up != up) = false := by simp
      have k0 : (0 : Int) ≤ (k : Int) := by omega
      have k1 : (k : Int) < (n : Int) := by omega
      have hneg : ¬ ((c + 2 + 4 * m : Nat) : Int) < 0 := by omega
      clear hre hrh hc e0 e1 e2 hlm hup hm HRW
      go_wp2_with fail
      refine HUS.out.mono ?_
      rintro e w2 ⟨rfl, hb⟩
      have HW2 := Shut.mk (HW.out.trans (hb.mono HW.out.size))
      clear hb d0 d1 d2
      go_wp2_with fail
      go_roundw
      case rel => exact ⟨k + 1, c + 2 + 4 * m, rfl, by go_num, by omega, HNX, HW2⟩
      case measure => simp [intOf]; omega
    · obtain rfl : n = k := by omega
      have HF : Shut (endH k9 hs = c) := ⟨by rw [HC.out, List.take_of_length_le (by have := HN.out.2; omega)]⟩
      go_wp2_with fail
      go_ret
      exact ⟨by rw [HF.out]; rfl, HW.out⟩
end Go.Proofs.Ytendbipfmgnjkaa
/- PzR: Rows of Sizes in the laws: their sizes, their copies, two that are the same (written by gen/mkrow.py). -/
namespace Go.Proofs.Ytendbipfmgnjkaa
set_option maxRecDepth 100000
open Go.RowKit
attribute [local go_sem ↓] Go.wp_at_zero Go.wp_at_succ

structure PzM where
  group : Int
  text : ByteArray
instance : Inhabited PzM := ⟨⟨0, ⟨#[]⟩⟩⟩
abbrev pzv (f : PzM) : Value := .agg #[.int .i64 f.group, .string f.text]
def pzC (f : PzM) : List Value := [.int .i64 f.group, .string f.text]
theorem pzC_len (f : PzM) : (pzC f).length = 2 := rfl
def pzS (fs : List PzM) : List Value := fs.flatMap pzC
theorem pzS_len (fs : List PzM) : (pzS fs).length = fs.length * 2 := flat_len pzC_len fs
/-- A row in memory. -/
abbrev PzRow (w : World) (a : Option Addr) (fs : List PzM) : Prop := CRow w a (pzS fs)
theorem PzRow.at {w : World} {a : Option Addr} {fs : List PzM} (h : PzRow w a fs) (hp : 0 < fs.length) :
    ∃ b off, a = some ⟨b, off, none⟩ ∧ b < w.heap.size ∧ ∀ j (h : j < fs.length), w.cell? ⟨b, off + j * 2, none⟩ = some (.int .i64 fs[j].group) ∧ w.cell? ⟨b, off + j * 2 + 1, none⟩ = some (.string fs[j].text) := by
  obtain ⟨b, off, e, hb, hc⟩ := h (by rw [pzS_len]; omega)
  exact ⟨b, off, e, hb, fun j hj => ⟨hc (j * 2) _ (flat_get pzC_len fs j hj 0 (by omega)), hc (j * 2 + 1) _ (flat_get pzC_len fs j hj 1 (by omega))⟩⟩
def PzFit (f : PzM) : Prop := f.text.size ≤ 9223372036854775807 ∧ (-9223372036854775808 ≤ f.group ∧ f.group ≤ 9223372036854775807)
def PzFits (fs : List PzM) : Prop := fs.length ≤ 9223372036854775807 ∧ ∀ f ∈ fs, PzFit f
def pzSum : List PzM → Nat
  | [] => 0
  | f :: fs => f.text.size + pzSum fs
theorem pzSum_take (fs : List PzM) (k : Nat) (h : k < fs.length) : pzSum (fs.take (k + 1)) = pzSum (fs.take k) + (fs[k].text.size) := by
  induction fs generalizing k with
  | nil => simp at h
  | cons f fs ih =>
    cases k with
    | zero => simp [pzSum]
    | succ k =>
      have := ih k (by simpa using h)
      simp only [List.take_succ_cons, pzSum, List.getElem_cons_succ]
      omega
theorem pzSum_mem {fs : List PzM} {f : PzM} (h : f ∈ fs) : f.text.size ≤ pzSum fs := by
  induction fs with
  | nil => cases h
  | cons g fs ih =>
    rcases List.mem_cons.1 h with rfl | q
    · simp only [pzSum]; omega
    · have := ih q
      simp only [pzSum]; omega
def SzPostPz (left : Int) (n : Nat) (w : World) (e : Ending) (w' : World) : Prop := ∃ r : Int, e = .returned (.int .i64 r) ∧ -1 ≤ r ∧ (0 ≤ r → r + n = left) ∧ Below w.heap.size w w'
set_option maxHeartbeats 400000 in
theorem szSize_any (f : PzM) (left : Int) (w : World) (h0 : 0 ≤ left) (h1 : left ≤ 1048576) (hf : PzFit f) :
    Calls Try.prog 46 #[pzv f, .int .i64 left] w fun e w' => SzPostPz left (f.text.size) w e w' := by
  have hh := hf
  unfold PzFit at hh
  clear hf
  by_cases c_text : left - f.text.size < 0
  · go_enter Try.func46, Try.ntmps46
    go_wp2_with fail
    go_ret
    exact ⟨-1, rfl, by omega, by first | omega | (intro _; push_cast; omega), (Below.refl _ _).alloc (Nat.le_refl _) _⟩
  · skip
    go_enter Try.func46, Try.ntmps46
    go_wp2_with fail
    go_ret
    exact ⟨left - f.text.size, rfl, by omega, by first | omega | (intro _; push_cast; omega), (Below.refl _ _).alloc (Nat.le_refl _) _⟩
set_option maxHeartbeats 1000000 in
theorem szSizeS_any (a : Option Addr) (fs : List PzM) (cap : Nat) (left : Int) (w : World) (hr : PzRow w a fs) (hf : PzFits fs) (h0 : 0 ≤ left) (h1 : left ≤ 1048576) :
    Calls Try.prog 16 #[.slice a fs.length cap, .int .i64 left] w fun e w' => SzPostPz left (fs.length + pzSum fs) w e w' := by
  have hl := hf.1
  by_cases c1 : left - fs.length < 0
  · clear hr hf
    go_enter Try.func16, Try.ntmps16
    go_wp2_with fail
    go_ret
    exact ⟨-1, rfl, by omega, by omega, Below.refl _ _⟩
  · have HR : Hid (PzRow w a fs) := hr
    have HF : Hid (PzFits fs) := hf
    clear hr hf
    go_enter Try.func16, Try.ntmps16
    go_wp2_with fail
    go_loopw [1, 5] (fun v i wr => ∃ (k : Nat) (l : Int), v = .int .i64 l ∧ i = .int .i64 k ∧ k ≤ fs.length ∧ 0 ≤ l ∧ l + fs.length + pzSum (fs.take k) = left ∧ Below w.heap.size w wr) (fun _ i _ => fs.length - (intOf i).toNat)
    case atStart => exact ⟨0, left - fs.length, rfl, rfl, Nat.zero_le _, by omega, by simp [pzSum], Below.refl _ _⟩
    case round =>
      obtain ⟨k, l, rfl, rfl, hk, hl0, hsum, hb⟩ := hrel
      by_cases hlt : k < fs.length
      · obtain ⟨b, off, rfl, hbl, hc⟩ := PzRow.at (HR.out.stays hb) (by omega)
        obtain ⟨d0, d1⟩ := hc k hlt
        have HS : Hid (l + fs.length + pzSum (fs.take k) = left) := hsum
        have hst := pzSum_take fs k hlt
        have HST : Hid (pzSum (fs.take (k + 1)) = pzSum (fs.take k) + (fs[k].text.size)) := hst
        have hfk := HF.out.2 fs[k] (List.getElem_mem hlt)
        obtain ⟨f, hfe⟩ : ∃ f, f = fs[k] := ⟨_, rfl⟩
        rw [← hfe] at d0 d1 hfk
        have HFE : Hid (f = fs[k]) := hfe
        have HB : Hid (Below w.heap.size w wr) := hb
        have hl1 : l ≤ 1048576 := by omega
        have k0 : (0 : Int) ≤ (k : Int) := by omega
        have k1 : (k : Int) < (fs.length : Int) := by omega
        clear hc hsum hst hfe hb
        go_wp2_with fail
        refine (szSize_any f l _ hl0 hl1 hfk).mono ?_
        rintro e w2 ⟨r, rfl, hr1, hr2, hb2⟩
        have HB2 : Hid (Below w.heap.size w w2) := HB.out.trans (hb2.mono HB.out.size)
        clear hb2
        by_cases hr : r < 0
        · go_wp2_with fail
          go_ret
          exact ⟨-1, rfl, by omega, by omega, HB2.out⟩
        · have hr3 := hr2 (by omega)
          have HR3 : Hid (r + ((f.text.size : Nat) : Int) = l) := hr3
          clear hr2 hr3
          go_wp2_with fail
          go_roundw
          case rel => exact ⟨k + 1, r, rfl, by go_num, by omega, by omega, by rw [HST.out, ← HFE.out]; have := HR3.out; have := HS.out; push_cast at *; omega, HB2.out⟩
          case measure => simp [intOf]; omega
      · obtain rfl : k = fs.length := by omega
        rw [List.take_length] at hsum
        go_wp2_with fail
        go_ret
        exact ⟨l, rfl, by omega, by intro _; push_cast; omega, hb⟩
theorem toSize_any (f : PzM) (w : World) :
    Calls Try.prog 47 #[pzv f] w fun e w' => e = .returned (pzv f) ∧ Below w.heap.size w w' := by
  go_enter Try.func47, Try.ntmps47
  go_wp2_with fail
  refine bodyPost_ret (v := pzv f) (by simp [results, Try.results47, go_sem]) rfl ⟨rfl, ?_⟩
  exact (((Below.refl _ _).alloc (Nat.le_refl _) _).alloc (by simp) _).alloc (by simp; omega) _
/-- A copy, in a block of its own. -/
def ToPostPz (fs : List PzM) (w : World) (e : Ending) (w' : World) : Prop := ∃ g, e = .returned (.slice (some ⟨g, 0, none⟩) fs.length fs.length) ∧ w.heap.size ≤ g ∧ WCells w' g (pzS fs) ∧ Below w.heap.size w w'
theorem infoSize : (Try.prog.info? 56).map (fun i => (i.zero, i.size, i.bytes)) = some (some (.agg #[.int .i64 0, .string ⟨#[]⟩]), 2, 24) := by kernel_rfl
set_option maxHeartbeats 1000000 in
theorem toSizeS_any (a : Option Addr) (fs : List PzM) (cap : Nat) (w : World) (hr : PzRow w a fs) (hl : fs.length ≤ 1048576) :
    Calls Try.prog 18 #[.slice a fs.length cap] w fun e w' => ToPostPz fs w e w' := by
  obtain ⟨i0, hi, hz0, hz1, hz2⟩ := info_parts infoSize
  have HR : Hid (PzRow w a fs) := hr
  clear hr
  go_enter Try.func18, Try.ntmps18
  go_wp2_with (at_make; refine wpList_make_full _ rfl _ _ 46 rfl w.heap.size 56 i0 _ 2 Try.underlying46 hi hz0 hz1 .i64 .i64 _ _ fs.length rfl rfl (by omega) (by omega) ?b2 ?b3 ?b4 ?_)
  case b2 => rw [hz2]; omega
  case b3 => unfold maxLen; omega
  case b4 => omega
  intro wm hownm hgrm
  have hbm : Below w.heap.size w wm := (Below.refl _ _).grown hgrm (Nat.le_refl _) (fun j hj => by simp at hj)
  have hrow : WCells wm w.heap.size (pzS (List.replicate fs.length default)) := by
    have h := own_wcells hownm
    have e : (madeCells #[.int .i64 0, .string ⟨#[]⟩] (fs.length * 2)).toList = pzS (List.replicate fs.length default) := made_flat pzC_len (by decide) #[.int .i64 0, .string ⟨#[]⟩] default rfl _
    rw [e] at h; exact h
  clear hownm hgrm
  go_wp2_with fail
  go_loopw [4] (fun i wr => ∃ (k : Nat) (gs : List PzM), i = .int .i64 k ∧ k ≤ fs.length ∧ gs.length = fs.length ∧ gs.take k = fs.take k ∧ WCells wr w.heap.size (pzS gs) ∧ Below w.heap.size w wr) (fun i _ => fs.length - (intOf i).toNat)
  case atStart => exact ⟨0, _, rfl, by omega, by simp, by simp, hrow, hbm⟩
  case round =>
    clear hrow hbm
    obtain ⟨k, gs, rfl, hk, hgl, hgt, hw, hb⟩ := hrel
    by_cases hlt : k < fs.length
    · obtain ⟨b, off, rfl, hbl, hc⟩ := PzRow.at HR.out (by omega)
      obtain ⟨d0, d1⟩ := hc k hlt
      rw [← hb.cell (p := ⟨b, off + k * 2, none⟩) hbl] at d0
      rw [← hb.cell (p := ⟨b, off + k * 2 + 1, none⟩) hbl] at d1
      obtain ⟨f, hfe⟩ : ∃ f, f = fs[k] := ⟨_, rfl⟩
      rw [← hfe] at d0 d1
      have k0 : (0 : Int) ≤ (k : Int) := by omega
      have k1 : (k : Int) < (fs.length : Int) := by omega
      have HFE : Hid (f = fs[k]) := hfe
      have HG : Hid (gs.length = fs.length ∧ gs.take k = fs.take k) := ⟨hgl, hgt⟩
      clear hc hfe hgl hgt
      go_wp2_with fail
      refine (toSize_any f _).mono ?_
      rintro e w2 ⟨rfl, hb2⟩
      have hw2 := hw.below hb2 hw.1
      have hb3 : Below w.heap.size w w2 := hb.trans (hb2.mono hb.size)
      clear hw hb hb2 d0 d1
      have hgk : k < gs.length := by have := HG.out.1; omega
      obtain ⟨c0, z0⟩ := hw2.2 (k * 2) _ (flat_get pzC_len gs k hgk 0 (by omega))
      obtain ⟨c1, z1⟩ := hw2.2 (k * 2 + 1) _ (flat_get pzC_len gs k hgk 1 (by omega))
      have HW : Hid (WCells w2 w.heap.size (pzS gs)) := hw2
      clear hw2
      have hset := HW.out.setElem pzC_len k hgk f
      have hbn := below_setW hb3 (Nat.le_refl _) (k * 2) (pzC f)
      have HS : Hid (WCells (setW w2 w.heap.size (k * 2) (pzC f)) w.heap.size (pzS (gs.set k f))) := hset
      have HBN : Hid (Below w.heap.size w (setW w2 w.heap.size (k * 2) (pzC f))) := hbn
      clear hset hbn
      go_wp2_with fail
      go_roundw
      case rel =>
        refine ⟨k + 1, gs.set k f, by go_num, by omega, by rw [List.length_set]; exact HG.out.1, ?_, HS.out, HBN.out⟩
        rw [List.take_succ_eq_append_getElem (by rw [List.length_set]; exact hgk), List.take_succ_eq_append_getElem hlt, List.take_set_of_le (Nat.le_refl _), HG.out.2, List.getElem_set_self, HFE.out]
      case measure => simp [intOf]; omega
    · have e : gs = fs := by
        rw [List.take_of_length_le (by omega), List.take_of_length_le (by omega)] at hgt; exact hgt
      subst e
      go_wp2_with fail
      go_ret
      exact ⟨_, rfl, Nat.le_refl _, hw, hb⟩
theorem eqSize_same (f : PzM) (w : World) :
    Calls Try.prog 20 #[pzv f, pzv f] w fun e w' => e = .returned (.bool true) ∧ Below w.heap.size w w' := by
  go_enter Try.func20, Try.ntmps20
  go_wp2_with fail
  go_ret
  exact ⟨rfl, ((Below.refl _ _).alloc (Nat.le_refl _) _).alloc (by simp) _⟩
set_option maxHeartbeats 1000000 in
theorem eqSizeS_same (a b : Option Addr) (fs : List PzM) (ca cb : Nat) (w : World) (ha : PzRow w a fs) (hb : PzRow w b fs) (hl : fs.length ≤ 9000000) :
    Calls Try.prog 21 #[.slice a fs.length ca, .slice b fs.length cb] w fun e w' => e = .returned (.bool true) ∧ Below w.heap.size w w' := by
  have HA : Hid (PzRow w a fs) := ha
  have HB : Hid (PzRow w b fs) := hb
  clear ha hb
  go_enter Try.func21, Try.ntmps21
  go_wp2_with fail
  go_loopw [5] (fun i wr => ∃ (k : Nat), i = .int .i64 k ∧ k ≤ fs.length ∧ Below w.heap.size w wr) (fun i _ => fs.length - (intOf i).toNat)
  case atStart => exact ⟨0, rfl, Nat.zero_le _, Below.refl _ _⟩
  case round =>
    obtain ⟨k, rfl, hk, hbl⟩ := hrel
    by_cases hlt : k < fs.length
    · obtain ⟨b1, o1, rfl, l1, hc1⟩ := PzRow.at (HA.out.stays hbl) (by omega)
      obtain ⟨b2, o2, rfl, l2, hc2⟩ := PzRow.at (HB.out.stays hbl) (by omega)
      obtain ⟨d0, d1⟩ := hc1 k hlt
      obtain ⟨e0, e1⟩ := hc2 k hlt
      obtain ⟨f, hfe⟩ : ∃ f, f = fs[k] := ⟨_, rfl⟩
      rw [← hfe] at d0 d1 e0 e1
      have HS : Hid (Below w.heap.size w wr) := hbl
      have k0 : (0 : Int) ≤ (k : Int) := by omega
      have k1 : (k : Int) < (fs.length : Int) := by omega
      clear hc1 hc2 hfe hbl
      go_wp2_with fail
      go_region_held3 (fun w' => w'.cell? ⟨b1, o1 + k * 2, none⟩ = some (.int .i64 f.group) ∧ w'.cell? ⟨b1, o1 + k * 2 + 1, none⟩ = some (.string f.text) ∧ w'.cell? ⟨b2, o2 + k * 2, none⟩ = some (.int .i64 f.group) ∧ w'.cell? ⟨b2, o2 + k * 2 + 1, none⟩ = some (.string f.text))
        (first | go_keep | (refine ⟨?_, ?_, ?_, ?_⟩ <;> first | (rw [hb2.cell (by exact l1)]; simp [*]) | (rw [hb2.cell (by exact l2)]; simp [*])))
        ((go_at_call 20; refine (eqSize_same f _).mono ?_; rintro e w2 ⟨rfl, hb2⟩))
      all_goals go_wp2_with fail
      all_goals
        have hb3 : Below w.heap.size w w2 := HS.out.trans ((Below.drew (Below.refl _ _)).trans (hb2.mono HS.out.size))
        exact ⟨⟨k + 1, by go_num, by omega, hb3⟩, by simp [intOf]; omega⟩
    · have e : k = fs.length := by omega
      subst e
      go_wp2_with fail
      go_ret
      exact ⟨rfl, hbl⟩
end Go.Proofs.Ytendbipfmgnjkaa
/- PzRm: Rows of Sizes: marks that are laid into one, and found again (written by gen/mkflat.py). -/
namespace Go.Proofs.Ytendbipfmgnjkaa
set_option maxRecDepth 100000
open Go.RowKit
attribute [local go_sem ↓] Go.wp_at_zero Go.wp_at_succ

def markS (k : Nat) : PzM := ⟨((k : Nat) : Int), mt (k + 1)⟩
def marksS (k n : Nat) : List PzM := (List.range n).map fun j => markS (k + 2 * j)
theorem marksS_len (k n : Nat) : (marksS k n).length = n := by simp [marksS]
theorem marksS_at (k n j : Nat) (h : j < (marksS k n).length) : (marksS k n)[j] = markS (k + 2 * j) := by simp [marksS]
theorem marksS_all {k n : Nat} {ys : List PzM} (hl : ys.length = n) (h : ∀ t, t < n → ys[t]? = some (markS (k + 2 * t))) : ys = marksS k n := by
  apply List.ext_getElem
  · rw [hl, marksS_len]
  · intro i h1 h2
    rw [marksS_at]
    have := h i (by omega)
    rw [List.getElem?_eq_getElem h1] at this
    exact Option.some.inj this
theorem markSizeS_zero (a : Option Addr) (k ca : Nat) (w : World) :
    Calls Try.prog 40 #[.slice a 0 ca, .int .i64 k] w fun e w' => e = .returned (.int .i64 k) ∧ w' = w := by
  go_enter Try.func40, Try.ntmps40
  go_wp2_with fail
  go_rounds 1
  go_ret
  exact ⟨rfl, rfl⟩
set_option maxHeartbeats 1000000 in
theorem markSizeS_all (g : Nat) (xs : List PzM) (k ca : Nat) (w : World) (ha : WCells w g (pzS xs)) (hk : 0 < k) (hn : k + 2 * xs.length ≤ 1000000000) (hca : xs.length ≤ ca) :
    Calls Try.prog 40 #[.slice (some ⟨g, 0, none⟩) xs.length ca, .int .i64 k] w fun e w' => e = .returned (.int .i64 (k + 2 * xs.length : Nat)) ∧ WCells w' g (pzS (marksS k xs.length)) ∧ w.grownBy w' (some g) := by
  obtain ⟨n, hnx⟩ : ∃ n, n = xs.length := ⟨_, rfl⟩
  have HN := Shut.mk hnx
  rw [← hnx]
  rw [← hnx] at hn hca
  clear hnx
  have HA := Shut.mk ha
  clear ha
  go_enter Try.func40, Try.ntmps40
  go_wp2_with fail
  go_loopw [1, 5] (fun c i wr => ∃ (j : Nat) (ys : List PzM), i = .int .i64 j ∧ c = .int .i64 (k + 2 * j : Nat) ∧ j ≤ n ∧ Shut (ys.length = n ∧ (∀ t, t < j → ys[t]? = some (markS (k + 2 * t))) ∧ WCells wr g (pzS ys) ∧ w.grownBy wr (some g))) (fun _ i _ => n - (intOf i).toNat)
  case atStart => exact ⟨0, xs, rfl, rfl, Nat.zero_le _, ⟨HN.out.symm, fun t ht => by omega, HA.out, grownBy_below (Below.refl _ _)⟩⟩
  case round =>
    obtain ⟨j, ys, rfl, rfl, hj, HH⟩ := hrel
    by_cases hlt : j < n
    · have j0 : (0 : Int) ≤ (j : Int) := by omega
      have j1 : (j : Int) < (n : Int) := by omega
      have hly : (pzS ys).length = n * 2 := by rw [pzS_len, HH.out.1]
      have hw0 := HH.out.2.2.1
      have Q1 : Shut (∀ W : World, Calls Try.prog 67 #[.int .i64 ((k : Int) + 2 * (j : Int) + 1)] W fun e w' => e = .returned (.string (mt (k + 2 * j + 1))) ∧ Below W.heap.size W w') := ⟨fun W => by
        have q := markText_any (k + 2 * j + 1) W (by omega) (by omega)
        rwa [show ((k + 2 * j + 1 : Nat) : Int) = (k : Int) + 2 * (j : Int) + 1 by push_cast; omega] at q⟩
      obtain ⟨c0, z0⟩ := hw0.2 (j * 2) _ (List.getElem?_eq_getElem (by first | omega | (simp only [List.length_set]; omega)))
      have HS0 : Shut (WCells (wr.setCell ⟨g, j * 2, none⟩ (.int .i64 ((k : Int) + 2 * (j : Int)))) g ((pzS ys).set (j * 2) (.int .i64 ((k : Int) + 2 * (j : Int))))) := ⟨hw0.set (j * 2) _ (by first | omega | (simp only [List.length_set]; omega))⟩
      have HG0 : Shut (w.grownBy (wr.setCell ⟨g, j * 2, none⟩ (.int .i64 ((k : Int) + 2 * (j : Int)))) (some g)) := ⟨(grownBy_two HH.out.2.2.2 (grownBy_setCell _ g _ _))⟩
      go_wp2_with fail
      refine (Q1.out _).mono ?_
      rintro e w1 ⟨rfl, hb1⟩
      have hv1 := HS0.out.grow hb1
      obtain ⟨c1, z1⟩ := hv1.2 (j * 2 + 1) _ (List.getElem?_eq_getElem (by first | omega | (simp only [List.length_set]; omega)))
      have HS1 : Shut (WCells (w1.setCell ⟨g, j * 2 + 1, none⟩ (.string (mt (k + 2 * j + 1)))) g (((pzS ys).set (j * 2) (.int .i64 ((k : Int) + 2 * (j : Int)))).set (j * 2 + 1) (.string (mt (k + 2 * j + 1))))) := ⟨hv1.set (j * 2 + 1) _ (by first | omega | (simp only [List.length_set]; omega))⟩
      have HG1 : Shut (w.grownBy (w1.setCell ⟨g, j * 2 + 1, none⟩ (.string (mt (k + 2 * j + 1)))) (some g)) := ⟨(grownBy_two (grownBy_two HG0.out (grownBy_below hb1)) (grownBy_setCell _ g _ _))⟩
      have hE : (⟨(k : Int) + 2 * (j : Int), mt (k + 2 * j + 1)⟩ : PzM) = markS (k + 2 * j) := by
        unfold markS
        congr 1 <;> (push_cast; omega)
      have HF : Shut (WCells (w1.setCell ⟨g, j * 2 + 1, none⟩ (.string (mt (k + 2 * j + 1)))) g (pzS (ys.set j ⟨(k : Int) + 2 * (j : Int), mt (k + 2 * j + 1)⟩))) := ⟨by
        have hfin : (((pzS ys).set (j * 2) (.int .i64 ((k : Int) + 2 * (j : Int)))).set (j * 2 + 1) (.string (mt (k + 2 * j + 1)))) = pzS (ys.set j ⟨(k : Int) + 2 * (j : Int), mt (k + 2 * j + 1)⟩) := flat_setL pzC_len ys j (by have := HH.out.1; omega) (⟨(k : Int) + 2 * (j : Int), mt (k + 2 * j + 1)⟩ : PzM)
        have q := HS1.out
        rw [hfin] at q
        exact q⟩
      rw [hE] at HF
      clear HS0 HS1 HG0 hw0 hb1 hv1 hE
      go_wp2_with fail
      go_roundw
      case rel =>
        refine ⟨j + 1, ys.set j (markS (k + 2 * j)), by go_num, congrArg (Value.int .i64) (by omega), by omega, ⟨by rw [List.length_set]; exact HH.out.1, fun t ht => ?_, ?_, ?_⟩⟩
        rotate_left
        · exact HF.out
        · exact HG1.out
        by_cases hjt : t = j
        · subst hjt
          rw [List.getElem?_set_self (by have := HH.out.1; omega)]
        · rw [List.getElem?_set_ne (Ne.symm hjt)]
          exact HH.out.2.1 t (by omega)
      case measure => simp [intOf]; omega
    · have e : j = n := by omega
      subst e
      have hfin := marksS_all HH.out.1 HH.out.2.1
      subst hfin
      go_wp2_with fail
      go_ret
      exact ⟨rfl, HH.out.2.2.1, HH.out.2.2.2⟩
/-- Marks in a row between two places, or in none. -/
theorem markSizeS_row (va : Option Addr) (xs : List PzM) (k ca lo hi : Nat) (w : World) (h : FRw w va (pzS xs) lo hi) (hk : 0 < k) (hn : k + 2 * xs.length ≤ 1000000000) (hca : xs.length ≤ ca) :
    Calls Try.prog 40 #[.slice va xs.length ca, .int .i64 k] w fun e w' => e = .returned (.int .i64 (k + 2 * xs.length : Nat)) ∧ FRw w' va (pzS (marksS k xs.length)) lo hi ∧ ∃ row, w.grownBy w' row ∧ ∀ g, row = some g → lo ≤ g ∧ g < hi := by
  rcases h with ⟨rfl, hX⟩ | ⟨g, rfl, h1, h2, h3⟩
  · have e : xs = [] := by
      have := congrArg List.length hX
      rw [pzS_len] at this
      exact List.eq_nil_of_length_eq_zero (by simp at this; omega)
    subst e
    refine (markSizeS_zero none k ca w).mono ?_
    rintro e w' ⟨rfl, rfl⟩
    exact ⟨by simp, .inl ⟨rfl, by simp [marksS, pzS]⟩, none, ⟨rfl, rfl, rfl, Nat.le_refl _, fun _ _ _ => rfl⟩, by simp⟩
  · refine (markSizeS_all g xs k ca w h3 hk hn hca).mono ?_
    rintro e w' ⟨rfl, h4, h5⟩
    exact ⟨rfl, .inr ⟨g, rfl, h1, h2, h4⟩, some g, h5, fun g' e => by simp at e; omega⟩
set_option maxHeartbeats 1000000 in
theorem heldSizeS_any (a : Option Addr) (k n ca : Nat) (w : World) (ha : PzRow w a (marksS k n)) (hk : 0 < k) (hn : k + 2 * n ≤ 1000000000) :
    Calls Try.prog 45 #[.slice a n ca, .int .i64 k] w fun e w' => e = .returned (.int .i64 (k + 2 * n : Nat)) ∧ Below w.heap.size w w' := by
  have HA := Shut.mk ha
  clear ha
  go_enter Try.func45, Try.ntmps45
  go_wp2_with fail
  go_loopw [1, 5] (fun c i wr => ∃ (j : Nat), i = .int .i64 j ∧ c = .int .i64 (k + 2 * j : Nat) ∧ j ≤ n ∧ Below w.heap.size w wr) (fun _ i _ => n - (intOf i).toNat)
  case atStart => exact ⟨0, rfl, rfl, Nat.zero_le _, Below.refl _ _⟩
  case round =>
    obtain ⟨j, rfl, rfl, hj, hb⟩ := hrel
    have HB := Shut.mk hb
    by_cases hlt : j < n
    · obtain ⟨b, off, rfl, lb, hc⟩ := PzRow.at (HA.out.stays hb) (by rw [marksS_len]; omega)
      obtain ⟨d0, d1⟩ := hc j (by rw [marksS_len]; omega)
      rw [marksS_at] at d0 d1
      rw [show (markS (k + 2 * j)).group = (k : Int) + 2 * (j : Int) by show ((k + 2 * j : Nat) : Int) = _; push_cast; omega] at d0
      rw [show (markS (k + 2 * j)).text = mt (k + 2 * j + 1) from rfl] at d1
      have j0 : (0 : Int) ≤ (j : Int) := by omega
      have j1 : (j : Int) < (n : Int) := by omega
      have Q1 : Shut (∀ W : World, Calls Try.prog 67 #[.int .i64 ((k : Int) + 2 * (j : Int) + 1)] W fun e w' => e = .returned (.string (mt (k + 2 * j + 1))) ∧ Below W.heap.size W w') := ⟨fun W => by
        have q := markText_any (k + 2 * j + 1) W (by omega) (by omega)
        rwa [show ((k + 2 * j + 1 : Nat) : Int) = (k : Int) + 2 * (j : Int) + 1 by push_cast; omega] at q⟩
      have hs1 : ((mt (k + 2 * j + 1)).toList == (mt (k + 2 * j + 1)).toList) = true := by simp
      clear hc hb
      go_wp2_with fail
      go_region_held3 (fun w' => w'.cell? ⟨b, off + j * 2 + 1, none⟩ = some (.string (mt (k + 2 * j + 1)))) (first | go_keep | (rw [hb1.cell (p := ⟨b, off + j * 2 + 1, none⟩) (by exact lb)]; assumption)) ((go_at_call 67; refine (Q1.out _).mono ?_; rintro e w1 ⟨rfl, hb1⟩))
      all_goals
        have lb1 : b < w1.heap.size := Nat.lt_of_lt_of_le lb hb1.size
        have HB1 : Shut (Below w.heap.size w w1) := ⟨HB.out.trans ((Below.drew (Below.refl _ _)).trans (hb1.mono HB.out.size))⟩
        clear hb1 d0 d1
        go_wp2_with fail
        exact ⟨⟨j + 1, by go_num, congrArg (Value.int .i64) (by omega), by omega, HB1.out⟩, by simp [intOf]; omega⟩
    · have e : j = n := by omega
      subst e
      go_wp2_with fail
      go_ret
      exact ⟨rfl, hb⟩
end Go.Proofs.Ytendbipfmgnjkaa
