/- Rows of hosts in memory: one that is read, one that may be written. -/
import Derived.Test.YtendbipfmgnjkaaHoA
namespace Go.Proofs.Ytendbipfmgnjkaa
set_option maxRecDepth 100000
open Go.RowKit

/-- A host, and where its units lie. -/
structure HoR where
  h : HM
  loc : Option Addr
  cap : Nat
instance : Inhabited HoR := ⟨⟨default, none, 0⟩⟩
def hC (r : HoR) : List Value := [.int .i64 r.h.id, .bool r.h.up, .slice r.loc r.h.us.length r.cap]
theorem hC_len (r : HoR) : (hC r).length = 3 := rfl
def HK : NK HoR := ⟨hC, 3, hC_len, HoR.loc, fun r => unS r.h.us⟩
def hS (rs : List HoR) : List Value := HK.cells rs
theorem hS_len (rs : List HoR) : (hS rs).length = rs.length * 3 := HK.cells_len rs
def hms (rs : List HoR) : List HM := rs.map HoR.h
theorem hms_len (rs : List HoR) : (hms rs).length = rs.length := by simp [hms]
/-- A row of hosts, as it is read. -/
def HsRow (w : World) (a : Option Addr) (rs : List HoR) : Prop := CRow w a (hS rs) ∧ ∀ r ∈ rs, UnRow w r.loc r.h.us
theorem HsRow.stays {w w' : World} {a : Option Addr} {rs : List HoR} (h : HsRow w a rs) (hb : Below w.heap.size w w') : HsRow w' a rs := ⟨h.1.stays hb, fun r hr => (h.2 r hr).stays hb⟩
theorem HsRow.at {w : World} {a : Option Addr} {rs : List HoR} (h : HsRow w a rs) (hp : 0 < rs.length) : ∃ b off, a = some ⟨b, off, none⟩ ∧ b < w.heap.size ∧ ∀ k (hk : k < rs.length), w.cell? ⟨b, off + k * 3, none⟩ = some (.int .i64 rs[k].h.id) ∧ w.cell? ⟨b, off + k * 3 + 1, none⟩ = some (.bool rs[k].h.up) ∧ w.cell? ⟨b, off + k * 3 + 2, none⟩ = some (.slice rs[k].loc rs[k].h.us.length rs[k].cap) ∧ UnRow w rs[k].loc rs[k].h.us := by
  obtain ⟨b, off, e, lb, hc⟩ := h.1 (by rw [hS_len]; omega)
  refine ⟨b, off, e, lb, fun k hk => ?_⟩
  have q : ∀ i v, i < 3 → (hC rs[k])[i]? = some v → w.cell? ⟨b, off + (k * 3 + i), none⟩ = some v := fun i v hi hv => hc _ v (by
    have := HK.cells_get rs k hk i hi
    exact this.trans hv)
  have q0 := q 0 _ (by omega) rfl
  have q1 := q 1 _ (by omega) rfl
  have q2 := q 2 _ (by omega) rfl
  rw [Nat.add_zero] at q0
  rw [← Nat.add_assoc] at q1 q2
  exact ⟨q0, q1, q2, h.2 _ (List.getElem_mem hk)⟩
/-- A host of a row, in every later world. -/
theorem hs_at {w W : World} {a : Option Addr} {rs : List HoR} (hr : HsRow w a rs) (hb : Below w.heap.size w W) {k : Nat} (hk : k < rs.length) : ∃ b off r, a = some ⟨b, off, none⟩ ∧ r = rs[k] ∧ b < w.heap.size ∧ ∀ X, Below W.heap.size W X → X.cell? ⟨b, off + k * 3, none⟩ = some (.int .i64 r.h.id) ∧ X.cell? ⟨b, off + k * 3 + 1, none⟩ = some (.bool r.h.up) ∧ X.cell? ⟨b, off + k * 3 + 2, none⟩ = some (.slice r.loc r.h.us.length r.cap) ∧ UnRow X r.loc r.h.us := by
  obtain ⟨b, off, e, lb, _⟩ := hr.at (by omega)
  refine ⟨b, off, rs[k], e, rfl, lb, fun X hX => ?_⟩
  obtain ⟨b', off', e', _, hc⟩ := (hr.stays (hb.trans (hX.mono hb.size))).at (by omega)
  rw [e] at e'
  simp only [Option.some.injEq, Addr.mk.injEq, and_true] at e'
  obtain ⟨rfl, rfl⟩ := e'
  exact hc k hk
/-- A row of hosts that may be written: all in a range. -/
def HsW (w : World) (va : Option Addr) (rs : List HoR) (lo hi : Nat) : Prop := (∀ r ∈ rs, r.h.us.length ≤ r.cap) ∧ ((va = none ∧ rs = []) ∨ ∃ g, va = some ⟨g, 0, none⟩ ∧ GW HK w g rs lo hi)
theorem HsW.row {w : World} {va : Option Addr} {rs : List HoR} {lo hi : Nat} (h : HsW w va rs lo hi) : HsRow w va rs := by
  rcases h.2 with ⟨rfl, rfl⟩ | ⟨g, rfl, hg⟩
  · exact ⟨fun hp => by rw [hS_len] at hp; simp at hp, fun r hr => by cases hr⟩
  · exact ⟨hg.gr.1.crow, fun r hr => (hg.gr.2 r hr).crow⟩
theorem HsW.turned {w w' : World} {va : Option Addr} {rs : List HoR} {lo hi lo' hi' : Nat} (h : HsW w va rs lo hi) (t : Turned w w' lo' hi') (hd : hi ≤ lo' ∨ hi' ≤ lo) : HsW w' va rs lo hi :=
  ⟨h.1, h.2.imp id fun ⟨g, e, hg⟩ => ⟨g, e, hg.turned t hd⟩⟩
theorem HsW.below {w w' : World} {va : Option Addr} {rs : List HoR} {lo hi : Nat} (h : HsW w va rs lo hi) (hb : Below w.heap.size w w') : HsW w' va rs lo hi := ⟨h.1, h.2.imp id fun ⟨g, e, hg⟩ => ⟨g, e, hg.below hb⟩⟩
theorem HsW.wide {w : World} {va : Option Addr} {rs : List HoR} {lo hi lo' hi' : Nat} (h : HsW w va rs lo hi) (h1 : lo' ≤ lo) (h2 : hi ≤ hi') : HsW w va rs lo' hi' := ⟨h.1, h.2.imp id fun ⟨g, e, hg⟩ => ⟨g, e, hg.wide h1 h2⟩⟩
/-- A row of hosts as a stretch. -/
abbrev hsS (va : Option Addr) (rs : List HoR) (lo hi : Nat) : Str := ⟨fun W => HsW W va rs lo hi, lo, hi⟩
theorem hsS.loc (va : Option Addr) (rs : List HoR) (lo hi : Nat) : (hsS va rs lo hi).Loc := fun _ _ _ _ h t hd => HsW.turned h t hd
/-- The answer: hosts in rows of the call's own. -/
def HsPost (hs : List HM) (w : World) (e : Ending) (w' : World) : Prop := ∃ va cap rs, e = .returned (.slice va rs.length cap) ∧ hms rs = hs ∧ HsW w' va rs w.heap.size w'.heap.size ∧ rs.length ≤ cap ∧ Below w.heap.size w w'
/-- How much hosts hold. -/
def hsSum : List HM → Nat
  | [] => 0
  | h :: hs => (h.us.length + unSum h.us) + hsSum hs
theorem hsSum_take (hs : List HM) (k : Nat) (h : k < hs.length) : hsSum (hs.take (k + 1)) = hsSum (hs.take k) + (hs[k].us.length + unSum hs[k].us) := by
  induction hs generalizing k with
  | nil => simp at h
  | cons a hs ih =>
    cases k with
    | zero => simp [hsSum]
    | succ k =>
      have := ih k (by simpa using h)
      simp only [List.take_succ_cons, hsSum, List.getElem_cons_succ] at this ⊢
      omega
theorem hsSum_mem {hs : List HM} {h : HM} (hm : h ∈ hs) : h.us.length + unSum h.us ≤ hsSum hs := by
  induction hs with
  | nil => cases hm
  | cons a hs ih =>
    simp only [hsSum]
    rcases List.mem_cons.1 hm with rfl | hm
    · omega
    · have := ih hm; omega
def HsFits (hs : List HM) : Prop := hs.length ≤ 9223372036854775807 ∧ ∀ h ∈ hs, UnFits h.us ∧ -9223372036854775808 ≤ h.id ∧ h.id ≤ 9223372036854775807
/-- The hosts whose fields are marks. -/
def marksH (k : Nat) : List HM → List HM
  | [] => []
  | h :: hs => ⟨(k : Nat), (k + 1) % 3 == 0, marksU (k + 2) h.us.length⟩ :: marksH (k + 2 + 4 * h.us.length) hs
def endH (k : Nat) : List HM → Nat
  | [] => k
  | h :: hs => endH (k + 2 + 4 * h.us.length) hs
theorem endH_eq (k : Nat) (hs : List HM) : endH k hs = k + 2 * hs.length + 4 * (hs.map fun h => h.us.length).sum := by
  induction hs generalizing k with
  | nil => simp [endH]
  | cons h hs ih => simp only [endH, ih, List.length_cons, List.map_cons, List.sum_cons]; omega
theorem marksH_len (k : Nat) (hs : List HM) : (marksH k hs).length = hs.length := by
  induction hs generalizing k with
  | nil => rfl
  | cons h hs ih => simp [marksH, ih]
theorem endH_take (k : Nat) (hs : List HM) (j : Nat) (hj : j < hs.length) : endH k (hs.take (j + 1)) = endH k (hs.take j) + 2 + 4 * hs[j].us.length := by
  induction hs generalizing k j with
  | nil => simp at hj
  | cons h hs ih =>
    cases j with
    | zero => simp [endH]
    | succ j => simpa [endH] using ih (k + 2 + 4 * h.us.length) j (by simpa using hj)
theorem marksH_at (k : Nat) (hs : List HM) (j : Nat) (hj : j < hs.length) : (marksH k hs)[j]'(by rw [marksH_len]; exact hj) = ⟨(endH k (hs.take j) : Nat), (endH k (hs.take j) + 1) % 3 == 0, marksU (endH k (hs.take j) + 2) hs[j].us.length⟩ := by
  induction hs generalizing k j with
  | nil => simp at hj
  | cons h hs ih =>
    cases j with
    | zero => simp [marksH, endH]
    | succ j => simpa [marksH, endH] using ih (k + 2 + 4 * h.us.length) j (by simpa using hj)
/-- A host is laid anew into such a row. -/
theorem GW.host {w w2 : World} {g lo : Nat} {rs : List HoR} (h : GW HK w g rs lo w.heap.size) (hb : Below w.heap.size w w2) (j : Nat) (hj : j < rs.length) (H : HM) (a : Option Addr) (cap : Nat) (hF : FRw w2 a (unS H.us) w.heap.size w2.heap.size) (hlo : lo ≤ w.heap.size) :
    GW HK (setW w2 g (j * 3) (hC ⟨H, a, cap⟩)) g (rs.set j ⟨H, a, cap⟩) lo w2.heap.size := by
  have k := (h.below hb).wide (Nat.le_refl _) hb.size
  refine k.put j hj ⟨H, a, cap⟩ ?_ fun s hs h1 h2 e => ?_
  · rcases hF with ⟨_, e⟩ | ⟨q, e, q1, q2, q3⟩
    · exact .inl e
    · exact .inr ⟨q, e, by omega, q2, by have := h.ghi; omega, q3⟩
  · rcases h.rows s hs with q | ⟨b, e1, q1, q2, q3, q4⟩
    · exact h1 q
    · rcases hF with ⟨_, q⟩ | ⟨q, e2, p1, p2, p3⟩
      · exact h2 q
      · have : some (⟨b, 0, none⟩ : Addr) = some ⟨q, 0, none⟩ := by rw [← e1, ← e2]; exact e
        simp only [Option.some.injEq, Addr.mk.injEq, and_true] at this
        omega
theorem setW3 (w : World) (g o : Nat) (v0 v1 v2 : Value) : setW w g o [v0, v1, v2] = ((w.setCell ⟨g, o, none⟩ v0).setCell ⟨g, o + 1, none⟩ v1).setCell ⟨g, o + 2, none⟩ v2 := rfl
theorem setW_sz (w : World) (g off : Nat) (vs : List Value) : (setW w g off vs).heap.size = w.heap.size := by
  induction vs generalizing w off with
  | nil => rfl
  | cons v vs ih => show (setW _ g (off + 1) vs).heap.size = _; rw [ih]; simp [World.setCell]
end Go.Proofs.Ytendbipfmgnjkaa
