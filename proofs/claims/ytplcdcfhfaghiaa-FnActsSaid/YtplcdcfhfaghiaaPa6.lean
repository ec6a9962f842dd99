/- Texts of ours, laid one behind the other: ActA, DiskL, DiskM, ImA, ActM, GrwE, GenA. -/
import Derived.Test.YtplcdcfhfaghiaaPa5
import Derived.PlainAid
import Derived.OwnWalk
import Derived.Deep.RegionHeld3
import Derived.Deep.DrawnRows
import Derived.Test.YtplcdcfhfaghiaaShelf
import Derived.Sort.KeysCollected
import Derived.Sort.Walk0
/- ActA: Rows of acts, as the model holds them: their sizes, their copies. -/
namespace Go.Proofs.Ytplcdcfhfaghiaa
set_option maxRecDepth 100000
open Go.RowKit
attribute [local go_sem ↓] Go.wp_at_zero Go.wp_at_succ

/-- An act. -/
structure AM where
  kind : Int
  name : ByteArray
  text : ByteArray
  dst : ByteArray
instance : Inhabited AM := ⟨⟨0, ⟨#[]⟩, ⟨#[]⟩, ⟨#[]⟩⟩⟩
abbrev av (f : AM) : Value := .agg #[.int .i64 f.kind, .string f.name, .string f.text, .string f.dst]
def acells (f : AM) : List Value := [.int .i64 f.kind, .string f.name, .string f.text, .string f.dst]
theorem acells_len (f : AM) : (acells f).length = 4 := rfl
def acs (fs : List AM) : List Value := fs.flatMap acells
theorem acs_len (fs : List AM) : (acs fs).length = fs.length * 4 := flat_len acells_len fs
/-- A row of files in memory. -/
abbrev ARow (w : World) (a : Option Addr) (fs : List AM) : Prop := CRow w a (acs fs)
theorem ARow.at {w : World} {a : Option Addr} {fs : List AM} (h : ARow w a fs) (hp : 0 < fs.length) :
    ∃ b off, a = some ⟨b, off, none⟩ ∧ b < w.heap.size ∧ ∀ j (h : j < fs.length), w.cell? ⟨b, off + j * 4, none⟩ = some (.int .i64 fs[j].kind) ∧ w.cell? ⟨b, off + j * 4 + 1, none⟩ = some (.string fs[j].name) ∧ w.cell? ⟨b, off + j * 4 + 2, none⟩ = some (.string fs[j].text) ∧ w.cell? ⟨b, off + j * 4 + 3, none⟩ = some (.string fs[j].dst) := by
  obtain ⟨b, off, e, hb, hc⟩ := h (by rw [acs_len]; omega)
  exact ⟨b, off, e, hb, fun j hj => ⟨hc (j * 4) _ (flat_get acells_len fs j hj 0 (by omega)), hc (j * 4 + 1) _ (flat_get acells_len fs j hj 1 (by omega)), hc (j * 4 + 2) _ (flat_get acells_len fs j hj 2 (by omega)), hc (j * 4 + 3) _ (flat_get acells_len fs j hj 3 (by omega))⟩⟩
/-- What is in the acts: their texts fit a machine. -/
def AFit (fs : List AM) : Prop := fs.length ≤ 9223372036854775807 ∧ ∀ f ∈ fs, f.name.size ≤ 9223372036854775807 ∧ f.text.size ≤ 9223372036854775807 ∧ f.dst.size ≤ 9223372036854775807 ∧ -9223372036854775808 ≤ f.kind ∧ f.kind ≤ 9223372036854775807
/-- How many bytes they have. -/
def asum : List AM → Nat
  | [] => 0
  | f :: fs => f.name.size + f.text.size + f.dst.size + asum fs
theorem asum_take (fs : List AM) (k : Nat) (h : k < fs.length) : asum (fs.take (k + 1)) = asum (fs.take k) + (fs[k].name.size + fs[k].text.size + fs[k].dst.size) := by
  induction fs generalizing k with
  | nil => simp at h
  | cons f fs ih =>
    cases k with
    | zero => simp [asum]
    | succ k =>
      have := ih k (by simpa using h)
      simp only [List.take_succ_cons, asum, List.getElem_cons_succ]
      omega

def SzPostA (left : Int) (n : Nat) (w : World) (e : Ending) (w' : World) : Prop := ∃ r : Int, e = .returned (.int .i64 r) ∧ -1 ≤ r ∧ (0 ≤ r → r + n = left) ∧ Below w.heap.size w w'
/-- A copy of the files, in a block of its own. -/
def ToPostA (fs : List AM) (w : World) (e : Ending) (w' : World) : Prop := ∃ g, e = .returned (.slice (some ⟨g, 0, none⟩) fs.length fs.length) ∧ w.heap.size ≤ g ∧ WCells w' g (acs fs) ∧ Below w.heap.size w w'
theorem infoAct : (Try.prog.info? 37).map (fun i => (i.zero, i.size, i.bytes)) = some (some (.agg #[.int .i64 0, .string ⟨#[]⟩, .string ⟨#[]⟩, .string ⟨#[]⟩]), 4, 56) := by kernel_rfl
end Go.Proofs.Ytplcdcfhfaghiaa
/- DiskL: The laws on a disk that tell a bool, or a text: their walks, from what the program's own function answers. -/
namespace Go.Proofs.Ytplcdcfhfaghiaa
set_option maxRecDepth 100000
open Go.RowKit
attribute [local go_sem ↓] Go.wp_at_zero Go.wp_at_succ

/-- What stays through the last comparison: the variable's copy of the disk, the disk that came in, and their rows. -/
def K5 (w : World) (a : Option Addr) (fs : List FM) (cap g4 y4 : Nat) (w' : World) : Prop :=
  WCells w' y4 [.slice (some ⟨g4, 0, none⟩) fs.length fs.length] ∧ WCells w' w.heap.size [.slice a fs.length cap] ∧ FRow w' a fs ∧ WCells w' g4 (fcs fs) ∧ Below w.heap.size w w'
theorem K5.keep {w w' w'' : World} {a : Option Addr} {fs : List FM} {cap g4 y4 : Nat} (h : w'.cell? ⟨y4, 0, none⟩ = some (.slice (some ⟨g4, 0, none⟩) fs.length fs.length) ∧ w'.cell? ⟨w.heap.size, 0, none⟩ = some (.slice a fs.length cap) ∧ Shut (K5 w a fs cap g4 y4 w')) (hb : Below w'.heap.size w' w'') :
    w''.cell? ⟨y4, 0, none⟩ = some (.slice (some ⟨g4, 0, none⟩) fs.length fs.length) ∧ w''.cell? ⟨w.heap.size, 0, none⟩ = some (.slice a fs.length cap) ∧ Shut (K5 w a fs cap g4 y4 w'') := by
  obtain ⟨h1, h2, h3, h4, h5⟩ := h.2.2.out
  exact ⟨((h1.grow hb).2 0 _ rfl).1, ((h2.grow hb).2 0 _ rfl).1, ⟨h1.grow hb, h2.grow hb, h3.stays hb, h4.grow hb, h5.trans (hb.mono h5.size)⟩⟩
theorem K5.drew {w w' : World} {a : Option Addr} {fs : List FM} {cap g4 y4 : Nat} (h : Shut (K5 w a fs cap g4 y4 w')) : Shut (K5 w a fs cap g4 y4 w'.drew) :=
  ⟨h.out.1, h.out.2.1, h.out.2.2.1, h.out.2.2.2.1, h.out.2.2.2.2.drew⟩
/-- What is asked of the program's DiskOk. -/
def ImplDiskOk : Prop := ∀ (a : Option Addr) (fs : List FM) (cap : Nat) (w : World), FRow w a fs → FFit fs → fs.length ≤ 1048576 → Calls Try.prog 18 #[.agg #[.slice a fs.length cap]] w fun e w' => e = .returned (.bool (dOkB fs)) ∧ Below w.heap.size w w'
end Go.Proofs.Ytplcdcfhfaghiaa
/- DiskM: The laws on FileAt and AllKept: their walks, from what the program's own functions answer. -/
namespace Go.Proofs.Ytplcdcfhfaghiaa
set_option maxRecDepth 100000
open Go.RowKit
attribute [local go_sem ↓] Go.wp_at_zero Go.wp_at_succ

theorem fileV_form (fs : List FM) (n : ByteArray) : ∃ (t : ByteArray) (b : Bool), fileV fs n = .tuple #[.string t, .bool b] := by
  unfold fileV
  split
  · exact ⟨_, _, rfl⟩
  · exact ⟨_, _, rfl⟩
/-- What is asked of the program's FileAt. -/
def ImplFileAt : Prop := ∀ (a : Option Addr) (fs : List FM) (cap : Nat) (n : ByteArray) (w : World), FRow w a fs → FFit fs → fs.length ≤ 1048576 → fsum fs ≤ 1048576 → n.size ≤ 1048576 → Calls Try.prog 10 #[.agg #[.slice a fs.length cap], .string n] w fun e w' => e = .returned (fileV fs n) ∧ Below w.heap.size w w'
/-- All is kept. -/
def AKept (fs : List FM) : Prop := DOk fs ∧ ∀ k, k < fs.length → ((fs.getD k default).text.size : Int) ≤ (fs.getD k default).kept
open Classical in
noncomputable def akB (fs : List FM) : Bool := decide (AKept fs)
theorem akB_yes {fs : List FM} (h : AKept fs) : akB fs = true := by unfold akB; simp [h]
theorem akB_no {fs : List FM} (h : ¬ AKept fs) : akB fs = false := by unfold akB; simp [h]
end Go.Proofs.Ytplcdcfhfaghiaa
/- ImA: The program's own walks over a disk: whether it is right, what a file holds, whether all is kept. -/
namespace Go.Proofs.Ytplcdcfhfaghiaa
set_option maxRecDepth 100000
open Go.RowKit
attribute [local go_sem ↓] Go.wp_at_zero Go.wp_at_succ

theorem fileNameOk_any (s : ByteArray) (w : World) :
    Calls Try.prog 38 #[.string s] w fun e w' => e = .returned (.bool (decide (1 ≤ s.size ∧ s.size ≤ 8))) ∧ w' = w := by
  by_cases h1 : 1 ≤ s.size
  · by_cases h2 : s.size ≤ 8
    · have e : decide (1 ≤ s.size ∧ s.size ≤ 8) = true := by simp; omega
      rw [e]
      have h1' : (1 : Int) ≤ (s.size : Int) := by omega
      have h2' : (s.size : Int) ≤ 8 := by omega
      go_enter Try.func38, Try.ntmps38
      go_wp2_with fail
      go_ret
      exact ⟨rfl, rfl⟩
    · have e : decide (1 ≤ s.size ∧ s.size ≤ 8) = false := by simp; omega
      rw [e]
      have h1' : (1 : Int) ≤ (s.size : Int) := by omega
      have h2' : ¬ (s.size : Int) ≤ 8 := by omega
      go_enter Try.func38, Try.ntmps38
      go_wp2_with fail
      go_ret
      exact ⟨rfl, rfl⟩
  · have e : decide (1 ≤ s.size ∧ s.size ≤ 8) = false := by simp; omega
    rw [e]
    have h1' : ¬ (1 : Int) ≤ (s.size : Int) := by omega
    go_enter Try.func38, Try.ntmps38
    go_wp2_with fail
    go_ret
    exact ⟨rfl, rfl⟩
theorem fileNameOk_is (s : ByteArray) (w : World) (b : Bool) (h : decide (1 ≤ s.size ∧ s.size ≤ 8) = b) : Calls Try.prog 38 #[.string s] w fun e w' => e = .returned (.bool b) ∧ w' = w := by
  have := fileNameOk_any s w
  rwa [h] at this
/-- Texts are less, alike, or more. -/
theorem less_iff (a b : List UInt8) : Op.bytesLess a b = !(Op.bytesLess b a || b == a) := by
  rw [bytesLess_eq, bytesLess_eq]
  by_cases h : a < b
  · have h1 : ¬ b < a := List.lt_asymm h
    have h2 : b ≠ a := fun e => by subst e; exact List.lt_irrefl _ h
    simp [h, h1, h2]
  · by_cases h2 : b = a
    · subst h2; simp [List.lt_irrefl]
    · have h3 : b < a := by
        by_cases h4 : b < a
        · exact h4
        · exact absurd (List.le_antisymm (List.not_lt.1 h) (List.not_lt.1 h4)) h2
      simp [h, h3]
set_option maxHeartbeats 2000000 in
theorem implDiskOk : ImplDiskOk := by
  intro a fs cap w hr hf hl
  have hb0 : Below w.heap.size w (w.alloc (.cells #[.slice a fs.length cap] 26)) := (Below.refl _ _).alloc (Nat.le_refl _) _
  by_cases h30 : 30 < fs.length
  · rw [dOkB_no (fun h => by have := h.1; omega)]
    have h30' : (30 : Int) < (fs.length : Int) := by omega
    clear hr hf
    go_enter Try.func18, Try.ntmps18
    go_wp2_with fail
    go_ret
    exact ⟨rfl, hb0⟩
  · have h30' : ¬ (30 : Int) < (fs.length : Int) := by omega
    have HR : Hid (FRow w a fs) := hr
    have HF : Hid (FFit fs) := hf
    have hbox := wcells_new w #[.slice a fs.length cap] 26
    have HX : Hid (WCells (w.alloc (.cells #[.slice a fs.length cap] 26)) w.heap.size [.slice a fs.length cap]) := hbox
    have HB0 : Hid (Below w.heap.size w (w.alloc (.cells #[.slice a fs.length cap] 26))) := hb0
    clear hr hf hbox hb0
    generalize hO : dOkB fs = O
    have HO : Hid (dOkB fs = O) := hO
    clear hO
    go_enter Try.func18, Try.ntmps18
    go_wp2_with fail
    go_loopw [12] (fun i wr => ∃ (k : Nat), i = .int .i64 k ∧ k ≤ fs.length ∧ (∀ j, j < k → FAt fs j) ∧ WCells wr w.heap.size [.slice a fs.length cap] ∧ Below w.heap.size w wr) (fun i _ => fs.length - (intOf i).toNat)
    case atStart => exact ⟨0, rfl, Nat.zero_le _, fun j hj => by omega, HX.out, HB0.out⟩
    case round =>
      obtain ⟨k, rfl, hk, hgood, hx, hb⟩ := hrel
      have HGD : Hid (∀ j, j < k → FAt fs j) := hgood
      have x0 := (hx.2 0 _ rfl).1
      by_cases hlt : k < fs.length
      · obtain ⟨b, off, rfl, lb, hc⟩ := FRow.at (HR.out.stays hb) (by omega)
        obtain ⟨d0, d1, d2⟩ := hc k hlt
        obtain ⟨f, hfe⟩ : ∃ f, f = fs[k] := ⟨_, rfl⟩
        rw [← hfe] at d0 d1 d2
        have HFE : Hid (fs.getD k default = f) := (getD_atF fs k hlt).trans hfe.symm
        have k0 : (0 : Int) ≤ (k : Int) := by omega
        have k1 : (k : Int) < (fs.length : Int) := by omega
        have hbx : Below w.heap.size w (wr.alloc (.cells #[.string f.name, .string f.text, .int .i64 f.kept] 55)) := hb.alloc hb.size _
        have HBX : Hid (Below w.heap.size w (wr.alloc (.cells #[.string f.name, .string f.text, .int .i64 f.kept] 55))) := hbx
        have hxx := hx.alloc (.cells #[.string f.name, .string f.text, .int .i64 f.kept] 55)
        have HXX : Hid (WCells (wr.alloc (.cells #[.string f.name, .string f.text, .int .i64 f.kept] 55)) w.heap.size [.slice (some ⟨b, off, none⟩) fs.length cap]) := hxx
        have y0 := (hxx.2 0 _ rfl).1
        have HXN : ∀ q, WCells ((wr.alloc (.cells #[.string f.name, .string f.text, .int .i64 f.kept] 55)).drewN q) w.heap.size [.slice (some ⟨b, off, none⟩) fs.length cap] := fun q => hxx
        have HBN : ∀ q, Below w.heap.size w ((wr.alloc (.cells #[.string f.name, .string f.text, .int .i64 f.kept] 55)).drewN q) := fun q => hbx.trans ⟨rfl, rfl, rfl, Nat.le_refl _, fun _ _ => rfl⟩
        have lb' : b < wr.heap.size := lb
        clear hfe hbx hxx hx
        by_cases hA : decide (1 ≤ f.name.size ∧ f.name.size ≤ 8) = true
        · by_cases hD : 0 < k → Op.bytesLess (fs.getD (k - 1) default).name.toList f.name.toList = true
          · have HD : Hid (0 < k → Op.bytesLess (fs.getD (k - 1) default).name.toList f.name.toList = true) := hD
            by_cases hB : f.text.size ≤ 20000 ∧ 0 ≤ f.kept ∧ f.kept ≤ (f.text.size : Int)
            · have hB' : ¬ (20000 : Int) < (f.text.size : Int) := by omega
              have hB2 : ¬ f.kept < 0 := by omega
              have hB3 : ¬ (f.text.size : Int) < f.kept := by omega
              have HBB : Hid (f.text.size ≤ 20000 ∧ 0 ≤ f.kept ∧ f.kept ≤ (f.text.size : Int)) := hB
              clear hB
              by_cases hk0 : 0 < k
              · obtain ⟨p0, p1, p2⟩ := hc (k - 1) (by omega)
                obtain ⟨f1, hf1⟩ : ∃ f1, f1 = fs[k - 1] := ⟨_, rfl⟩
                rw [← hf1] at p0
                have HF1 : Hid (fs.getD (k - 1) default = f1) := (getD_atF fs (k - 1) (by omega)).trans hf1.symm
                have q0 : (wr.alloc (.cells #[.string f.name, .string f.text, .int .i64 f.kept] 55)).cell? ⟨b, off + (k - 1) * 3, none⟩ = some (.string f1.name) := (((Below.refl _ _).alloc (Nat.le_refl _) _ : Below wr.heap.size wr (wr.alloc (.cells #[.string f.name, .string f.text, .int .i64 f.kept] 55))).cell (p := ⟨b, off + (k - 1) * 3, none⟩) lb').trans p0
                have hkp : (0 : Int) < (k : Int) := by omega
                have hk1 : (k : Int) - 1 = ((k - 1 : Nat) : Int) := by omega
                have hk2 : (0 : Int) ≤ ((k - 1 : Nat) : Int) := by omega
                have hk3 : ((k - 1 : Nat) : Int) < (fs.length : Int) := by omega
                have hle : (Op.bytesLess f.name.toList f1.name.toList || f.name.toList == f1.name.toList) = false := by
                  have h2 := hD hk0
                  rw [HF1.out, less_iff] at h2
                  simpa using h2
                clear hc hf1 p0 p1 p2 hD
                go_wp2_with fail
                go_quiet (first
                  | (go_at_call 38; exact Calls.quiet_of_same (fileNameOk_is _ _ true hA)))
                go_wp2_with fail
                go_roundw
                case rel => exact ⟨k + 1, by go_num, by omega, fun j hj => by rcases Nat.lt_succ_iff_lt_or_eq.1 hj with h | h; exact HGD.out j h; subst h; exact ⟨by rw [HFE.out]; exact ⟨of_decide_eq_true hA, HBB.out.1, HBB.out.2.1, HBB.out.2.2⟩, fun h => by rw [HFE.out]; exact HD.out h⟩, HXN _, HBN _⟩
                case measure => simp [intOf]; omega
              · have hkn : decide ((0 : Int) < (k : Int)) = false := by simp; omega
                clear hc hD
                go_wp2_with fail
                go_quiet (first
                  | (go_at_call 38; exact Calls.quiet_of_same (fileNameOk_is _ _ true hA)))
                go_wp2_with fail
                go_roundw
                case rel => exact ⟨k + 1, by go_num, by omega, fun j hj => by rcases Nat.lt_succ_iff_lt_or_eq.1 hj with h | h; exact HGD.out j h; subst h; exact ⟨by rw [HFE.out]; exact ⟨of_decide_eq_true hA, HBB.out.1, HBB.out.2.1, HBB.out.2.2⟩, fun h => absurd h hk0⟩, HXN _, HBN _⟩
                case measure => simp [intOf]; omega
            · have HE : Hid (O = false) := HO.out.symm.trans (dOkB_no (fun h => hB (by have h2 := (h.2 k hlt).1; rw [HFE.out] at h2; exact ⟨h2.2.1, h2.2.2.1, h2.2.2.2⟩)))
              by_cases hk0 : 0 < k
              · obtain ⟨p0, p1, p2⟩ := hc (k - 1) (by omega)
                obtain ⟨f1, hf1⟩ : ∃ f1, f1 = fs[k - 1] := ⟨_, rfl⟩
                rw [← hf1] at p0
                have HF1 : Hid (fs.getD (k - 1) default = f1) := (getD_atF fs (k - 1) (by omega)).trans hf1.symm
                have q0 : (wr.alloc (.cells #[.string f.name, .string f.text, .int .i64 f.kept] 55)).cell? ⟨b, off + (k - 1) * 3, none⟩ = some (.string f1.name) := (((Below.refl _ _).alloc (Nat.le_refl _) _ : Below wr.heap.size wr (wr.alloc (.cells #[.string f.name, .string f.text, .int .i64 f.kept] 55))).cell (p := ⟨b, off + (k - 1) * 3, none⟩) lb').trans p0
                have hkp : (0 : Int) < (k : Int) := by omega
                have hk1 : (k : Int) - 1 = ((k - 1 : Nat) : Int) := by omega
                have hk2 : (0 : Int) ≤ ((k - 1 : Nat) : Int) := by omega
                have hk3 : ((k - 1 : Nat) : Int) < (fs.length : Int) := by omega
                have hle : (Op.bytesLess f.name.toList f1.name.toList || f.name.toList == f1.name.toList) = false := by
                  have h2 := hD hk0
                  rw [HF1.out, less_iff] at h2
                  simpa using h2
                clear hc hf1 p0 p1 p2 hD
                rcases (by omega : (20000 : Int) < (f.text.size : Int) ∨ (¬ (20000 : Int) < (f.text.size : Int) ∧ f.kept < 0) ∨ (¬ (20000 : Int) < (f.text.size : Int) ∧ ¬ f.kept < 0 ∧ (f.text.size : Int) < f.kept)) with c1 | ⟨c1, c2⟩ | ⟨c1, c2, c3⟩
                all_goals
                  clear hB
                  go_wp2_with fail
                  go_quiet (first
                    | (go_at_call 38; exact Calls.quiet_of_same (fileNameOk_is _ _ true hA)))
                  go_wp2_with fail
                  go_ret
                  exact ⟨congrArg (fun b => Ending.returned (.bool b)) HE.out.symm, HBN _⟩
              · have hkn : decide ((0 : Int) < (k : Int)) = false := by simp; omega
                clear hc hD
                rcases (by omega : (20000 : Int) < (f.text.size : Int) ∨ (¬ (20000 : Int) < (f.text.size : Int) ∧ f.kept < 0) ∨ (¬ (20000 : Int) < (f.text.size : Int) ∧ ¬ f.kept < 0 ∧ (f.text.size : Int) < f.kept)) with c1 | ⟨c1, c2⟩ | ⟨c1, c2, c3⟩
                all_goals
                  clear hB
                  go_wp2_with fail
                  go_quiet (first
                    | (go_at_call 38; exact Calls.quiet_of_same (fileNameOk_is _ _ true hA)))
                  go_wp2_with fail
                  go_ret
                  exact ⟨congrArg (fun b => Ending.returned (.bool b)) HE.out.symm, HBN _⟩
          · have HE : Hid (O = false) := HO.out.symm.trans (dOkB_no (fun h => hD (fun hk0 => by have h2 := (h.2 k hlt).2 hk0; rw [HFE.out] at h2; exact h2)))
            have hk0 : 0 < k := by
              by_cases h : 0 < k
              · exact h
              · exact absurd (fun h' => absurd h' h) hD
            obtain ⟨p0, p1, p2⟩ := hc (k - 1) (by omega)
            obtain ⟨f1, hf1⟩ : ∃ f1, f1 = fs[k - 1] := ⟨_, rfl⟩
            rw [← hf1] at p0
            have HF1 : Hid (fs.getD (k - 1) default = f1) := (getD_atF fs (k - 1) (by omega)).trans hf1.symm
            have q0 : (wr.alloc (.cells #[.string f.name, .string f.text, .int .i64 f.kept] 55)).cell? ⟨b, off + (k - 1) * 3, none⟩ = some (.string f1.name) := (((Below.refl _ _).alloc (Nat.le_refl _) _ : Below wr.heap.size wr (wr.alloc (.cells #[.string f.name, .string f.text, .int .i64 f.kept] 55))).cell (p := ⟨b, off + (k - 1) * 3, none⟩) lb').trans p0
            have hkp : (0 : Int) < (k : Int) := by omega
            have hk1 : (k : Int) - 1 = ((k - 1 : Nat) : Int) := by omega
            have hk2 : (0 : Int) ≤ ((k - 1 : Nat) : Int) := by omega
            have hk3 : ((k - 1 : Nat) : Int) < (fs.length : Int) := by omega
            have hle : (Op.bytesLess f.name.toList f1.name.toList || f.name.toList == f1.name.toList) = true := by
              have h2 : ¬ Op.bytesLess (fs.getD (k - 1) default).name.toList f.name.toList = true := fun h => hD (fun _ => h)
              rw [HF1.out, less_iff] at h2
              cases hX : (Op.bytesLess f.name.toList f1.name.toList || f.name.toList == f1.name.toList) with
              | true => rfl
              | false => rw [hX] at h2; exact absurd rfl h2
            clear hc hf1 p0 p1 p2 hD
            go_wp2_with fail
            go_quiet (first
              | (go_at_call 38; exact Calls.quiet_of_same (fileNameOk_is _ _ true hA)))
            go_wp2_with fail
            go_ret
            exact ⟨congrArg (fun b => Ending.returned (.bool b)) HE.out.symm, HBN _⟩
        · replace hA : decide (1 ≤ f.name.size ∧ f.name.size ≤ 8) = false := by simpa using hA
          clear hc
          go_wp2_with fail
          go_quiet (first
            | (go_at_call 38; exact Calls.quiet_of_same (fileNameOk_is _ _ false hA)))
          go_wp2_with fail
          go_ret
          exact ⟨congrArg (fun b => Ending.returned (.bool b)) ((HO.out.symm.trans (dOkB_no (fun h => of_decide_eq_false hA (by have h2 := (h.2 k hlt).1; rw [HFE.out] at h2; exact h2.1)))).symm), HBN _⟩
      · have e : k = fs.length := by omega
        subst e
        go_wp2_with fail
        go_ret
        exact ⟨congrArg (fun b => Ending.returned (.bool b)) ((HO.out.symm.trans (dOkB_yes ⟨by omega, fun j hj => HGD.out j (by omega)⟩)).symm), hb⟩
theorem fsum_mem {fs : List FM} {f : FM} (h : f ∈ fs) : f.name.size + f.text.size ≤ fsum fs := by
  induction fs with
  | nil => simp at h
  | cons g fs ih =>
    simp only [fsum]
    rcases List.mem_cons.1 h with rfl | h
    · omega
    · have := ih h; omega
theorem clone_any (s : ByteArray) (w : World) (h : s.size ≤ 281474976710656) : Calls Try.prog 24 #[.string s] w fun e w' => e = .returned (.string s) ∧ Below w.heap.size w w' := by
  go_enter Try.func24, Try.ntmps24
  go_wp2_with fail
  refine (Try.stringslite_Clone s _ h).mono ?_
  rintro e w1 ⟨rfl, hb⟩
  go_wp2_with fail
  go_ret
  exact ⟨rfl, hb⟩
set_option maxHeartbeats 1000000 in
theorem implFileAt : ImplFileAt := by
  intro a fs cap n w hr hf hl hfs hn
  have HR : Hid (FRow w a fs) := hr
  have HFS : Hid (fsum fs ≤ 1048576) := hfs
  have HX : Hid (WCells (w.alloc (.cells #[.slice a fs.length cap] 26)) w.heap.size [.slice a fs.length cap]) := wcells_new w #[.slice a fs.length cap] 26
  have HB0 : Hid (Below w.heap.size w (w.alloc (.cells #[.slice a fs.length cap] 26))) := (Below.refl _ _).alloc (Nat.le_refl _) _
  generalize hO : fileV fs n = O
  have HO : Hid (fileV fs n = O) := hO
  clear hr hf hfs hO
  go_enter Try.func10, Try.ntmps10
  go_wp2_with fail
  go_loopw [11] (fun i wr => ∃ (k : Nat), i = .int .i64 k ∧ k ≤ fs.length ∧ (∀ j, j < k → (fs.getD j default).name ≠ n) ∧ Below w.heap.size w wr) (fun i _ => fs.length - (intOf i).toNat)
  case atStart => exact ⟨0, rfl, Nat.zero_le _, fun j hj => by omega, HB0.out⟩
  case round =>
    obtain ⟨k, rfl, hk, hno, hb⟩ := hrel
    have HN : Hid (∀ j, j < k → (fs.getD j default).name ≠ n) := hno
    have HB : Hid (Below w.heap.size w wr) := hb
    clear hno
    by_cases hlt : k < fs.length
    · obtain ⟨b, off, rfl, lb, hc⟩ := FRow.at (HR.out.stays hb) (by omega)
      obtain ⟨d0, d1, d2⟩ := hc k hlt
      obtain ⟨f, hfe⟩ : ∃ f, f = fs[k] := ⟨_, rfl⟩
      rw [← hfe] at d0 d1 d2
      have HFE : Hid (fs.getD k default = f) := (getD_atF fs k hlt).trans hfe.symm
      have hsz : f.text.size ≤ 281474976710656 := by have := fsum_mem (fs := fs) (f := f) (by rw [hfe]; exact List.getElem_mem hlt); have := HFS.out; omega
      have k0 : (0 : Int) ≤ (k : Int) := by omega
      have k1 : (k : Int) < (fs.length : Int) := by omega
      have HBX : Hid (Below w.heap.size w (wr.alloc (.cells #[.string f.name, .string f.text, .int .i64 f.kept] 55))) := hb.alloc hb.size _
      clear hfe hb hc
      by_cases hn : f.name = n
      · have HNE : Hid (f.name = n) := hn
        have hq : (f.name.toList == n.toList) = true := by rw [hn]; simp
        clear hn
        go_wp2_with fail
        refine (clone_any f.text _ hsz).mono ?_
        rintro e w1 ⟨rfl, hb1⟩
        have HE : Hid (O = .tuple #[.string f.text, .bool true]) := by
          have := fileV_some (n := n) hlt (by rw [HFE.out]; exact HNE.out) HN.out
          rw [HFE.out] at this
          exact HO.out.symm.trans this
        have HBY : Hid (Below w.heap.size w w1) := HBX.out.trans (hb1.mono HBX.out.size)
        clear hb1
        go_wp2_with fail
        go_ret2
        exact ⟨congrArg Ending.returned HE.out.symm, HBY.out⟩
      · have hq := str_ne hn
        have HNE : Hid (f.name ≠ n) := hn
        clear hn
        go_wp2_with fail
        go_roundw
        case rel => exact ⟨k + 1, by go_num, by omega, fun j hj => by rcases Nat.lt_succ_iff_lt_or_eq.1 hj with h | h; exact HN.out j h; subst h; rw [HFE.out]; exact HNE.out, HBX.out⟩
        case measure => simp [intOf]; omega
    · have e : k = fs.length := by omega
      subst e
      have HE : Hid (O = .tuple #[.string ⟨#[]⟩, .bool false]) := HO.out.symm.trans (fileV_none (fun f hf => by
        obtain ⟨j, hj, rfl⟩ := List.getElem_of_mem hf
        rw [← getD_atF fs j hj]
        exact HN.out j hj))
      clear hb
      go_wp2_with fail
      go_ret2
      exact ⟨congrArg Ending.returned HE.out.symm, HB.out⟩
end Go.Proofs.Ytplcdcfhfaghiaa
/- ActM: What acts do to a disk, as lists of files: no text of the program is read here. -/
namespace Go.Proofs.Ytplcdcfhfaghiaa
set_option maxRecDepth 100000
open Go.RowKit

/-- A file's name as a list of bytes. -/
abbrev nm (f : FM) : List UInt8 := f.name.data.toList
theorem nm_toList (s : ByteArray) : s.toList = s.data.toList := ByteArray.toList_eq s
theorem nm_inj {s t : ByteArray} (h : s.data.toList = t.data.toList) : s = t := ByteArray.ext (Array.toList_inj.1 h)
/-- Names ascend. -/
abbrev UpN (fs : List FM) : Prop := fs.Pairwise fun f g => nm f < nm g
theorem DOk.of_up {fs : List FM} (h1 : fs.length ≤ 30) (h2 : ∀ f ∈ fs, FOk f) (h3 : UpN fs) : DOk fs := by
  refine ⟨h1, fun k hk => ?_⟩
  unfold FAt
  rw [getD_atF fs k hk]
  refine ⟨h2 _ (List.getElem_mem hk), fun h0 => ?_⟩
  rw [getD_atF fs (k - 1) (by omega), bytesLess_eq, nm_toList, nm_toList]
  exact decide_eq_true (List.pairwise_iff_getElem.1 h3 (k - 1) k (by omega) hk (by omega))
theorem DOk.ok {fs : List FM} (h : DOk fs) : ∀ f ∈ fs, FOk f := by
  intro f hf
  obtain ⟨k, hk, rfl⟩ := List.getElem_of_mem hf
  have := (h.2 k hk).1
  rwa [getD_atF fs k hk] at this
theorem DOk.up {fs : List FM} (h : DOk fs) : UpN fs := by
  refine List.pairwise_iff_getElem.2 fun i j hi hj hij => ?_
  induction j with
  | zero => omega
  | succ j ih =>
    have hs := (h.2 (j + 1) hj).2 (by omega)
    rw [getD_atF fs (j + 1) hj, getD_atF fs (j + 1 - 1) (by omega), bytesLess_eq, nm_toList, nm_toList] at hs
    have hs' : nm fs[j] < nm fs[j + 1] := of_decide_eq_true hs
    by_cases e : i = j
    · subst e; exact hs'
    · exact List.lt_trans (ih (by omega) (by omega)) hs'
theorem UpN.nodup {fs : List FM} (h : UpN fs) : fs.Nodup := h.imp fun {a b} hlt e => by subst e; exact List.lt_irrefl _ hlt
theorem UpN.name {fs : List FM} (h : UpN fs) {f g : FM} (hf : f ∈ fs) (hg : g ∈ fs) (e : f.name = g.name) : f = g := by
  induction fs with
  | nil => simp at hf
  | cons x xs ih =>
    obtain ⟨h1, h2⟩ := List.pairwise_cons.1 h
    rcases List.mem_cons.1 hf with rfl | hf' <;> rcases List.mem_cons.1 hg with rfl | hg'
    · rfl
    · have := h1 g hg'; rw [show nm g = nm f by rw [nm, nm, e]] at this; exact absurd this (List.lt_irrefl _)
    · have := h1 f hf'; rw [show nm f = nm g by rw [nm, nm, e]] at this; exact absurd this (List.lt_irrefl _)
    · exact ih h2 hf' hg'
theorem mem_less {f g : FM} {fs : List FM} : g ∈ lessF f fs ↔ g ∈ fs ∧ nm g < nm f := by
  unfold lessF
  rw [List.mem_filter, bytesLess_eq, nm_toList, nm_toList]
  simp
theorem mem_more {f g : FM} {fs : List FM} : g ∈ moreF f fs ↔ g ∈ fs ∧ nm f < nm g := by
  unfold moreF
  rw [List.mem_filter, ← less_iff, bytesLess_eq, nm_toList, nm_toList]
  simp
theorem mem_putF {f g : FM} {fs : List FM} : g ∈ putF f fs ↔ g = f ∨ (g ∈ fs ∧ g.name ≠ f.name) := by
  unfold putF
  simp only [List.mem_append, mem_less, mem_more, List.mem_singleton]
  constructor
  · rintro ((⟨h1, h2⟩ | h) | ⟨h1, h2⟩)
    · exact .inr ⟨h1, fun e => by rw [show nm g = nm f by rw [nm, nm, e]] at h2; exact List.lt_irrefl _ h2⟩
    · exact .inl h
    · exact .inr ⟨h1, fun e => by rw [show nm g = nm f by rw [nm, nm, e]] at h2; exact List.lt_irrefl _ h2⟩
  · rintro (h | ⟨h1, h2⟩)
    · exact .inl (.inr h)
    · by_cases c : nm g < nm f
      · exact .inl (.inl ⟨h1, c⟩)
      · refine .inr ⟨h1, ?_⟩
        by_cases c2 : nm f < nm g
        · exact c2
        · exact absurd (nm_inj (List.le_antisymm (List.not_lt.1 c2) (List.not_lt.1 c))) h2
theorem mem_withoutF {n : ByteArray} {g : FM} {fs : List FM} : g ∈ withoutF n fs ↔ g ∈ fs ∧ g.name ≠ n := by
  unfold withoutF
  rw [List.mem_filter]; simp
theorem UpN.without {fs : List FM} (h : UpN fs) (n : ByteArray) : UpN (withoutF n fs) := h.filter _
theorem UpN.put {fs : List FM} (h : UpN fs) (f : FM) : UpN (putF f fs) := by
  unfold putF
  refine List.pairwise_append.2 ⟨List.pairwise_append.2 ⟨h.filter _, List.pairwise_singleton _ _, fun a ha b hb => ?_⟩, h.filter _, fun a ha b hb => ?_⟩
  · rw [List.mem_singleton] at hb; subst hb; exact (mem_less.1 ha).2
  · have hb' := (mem_more.1 hb).2
    rcases List.mem_append.1 ha with ha | ha
    · exact List.lt_trans (mem_less.1 ha).2 hb'
    · rw [List.mem_singleton] at ha; subst ha; exact hb'
theorem put_len {fs : List FM} (h : UpN fs) (f : FM) : (putF f fs).length = (withoutF f.name fs).length + 1 := by
  have hp : (putF f fs).Perm (f :: withoutF f.name fs) := by
    refine (List.perm_ext_iff_of_nodup (h.put f).nodup ?_).2 fun g => ?_
    · exact List.nodup_cons.2 ⟨fun hf => (mem_withoutF.1 hf).2 rfl, (h.without _).nodup⟩
    · rw [mem_putF, List.mem_cons, mem_withoutF]
  rw [hp.length_eq]; rfl
theorem without_none {n : ByteArray} {fs : List FM} (h : ∀ f ∈ fs, f.name ≠ n) : withoutF n fs = fs := by
  unfold withoutF
  rw [List.filter_eq_self]
  intro f hf
  simpa using h f hf
theorem without_some {fs : List FM} (h : UpN fs) {f : FM} (hf : f ∈ fs) : (withoutF f.name fs).length + 1 = fs.length := by
  have hp : fs.Perm (f :: withoutF f.name fs) := by
    refine (List.perm_ext_iff_of_nodup h.nodup ?_).2 fun g => ?_
    · exact List.nodup_cons.2 ⟨fun hf => (mem_withoutF.1 hf).2 rfl, (h.without _).nodup⟩
    · rw [List.mem_cons, mem_withoutF]
      constructor
      · intro hg
        by_cases e : g.name = f.name
        · exact .inl (h.name hg hf e)
        · exact .inr ⟨hg, e⟩
      · rintro (rfl | ⟨hg, _⟩)
        · exact hf
        · exact hg
  rw [hp.length_eq]; rfl
/-- The file of a name. -/
def fileOf (fs : List FM) (n : ByteArray) : Option FM := fs.find? fun f => decide (f.name = n)
theorem fileOf_some {fs : List FM} {n : ByteArray} {f : FM} (h : fileOf fs n = some f) : f ∈ fs ∧ f.name = n := by
  unfold fileOf at h
  exact ⟨List.mem_of_find?_eq_some h, by simpa using List.find?_some h⟩
theorem fileOf_none {fs : List FM} {n : ByteArray} (h : fileOf fs n = none) : ∀ f ∈ fs, f.name ≠ n := by
  unfold fileOf at h
  intro f hf
  simpa using List.find?_eq_none.1 h f hf
/-- What an act makes of a disk, ahead of the look whether it is right. -/
def outA (fs : List FM) (a : AM) : Option (List FM) :=
  if a.kind = 1 then some (putF ⟨a.name, ((fileOf fs a.name).getD ⟨a.name, ⟨#[]⟩, 0⟩).text ++ a.text, ((fileOf fs a.name).getD ⟨a.name, ⟨#[]⟩, 0⟩).kept⟩ fs)
  else match fileOf fs a.name with
    | none => none
    | some f =>
      if a.kind = 2 then some (putF ⟨a.name, f.text, (f.text.size : Int)⟩ fs)
      else if a.kind = 3 then (if f.kept < (f.text.size : Int) ∨ a.dst = a.name ∨ ¬ (1 ≤ a.dst.size ∧ a.dst.size ≤ 8) then none else some (putF ⟨a.dst, f.text, f.kept⟩ (withoutF a.name fs)))
      else if a.kind = 4 then some (withoutF a.name fs)
      else none
/-- An act that may be one. -/
def ActIs (a : AM) : Prop := (1 ≤ a.name.size ∧ a.name.size ≤ 8) ∧ (a.kind ≠ 3 → a.dst = ⟨#[]⟩) ∧ (a.kind ≠ 1 → a.text = ⟨#[]⟩)
open Classical in
/-- What DoAct answers. -/
noncomputable def doA (fs : List FM) (a : AM) : Option (List FM) := if DOk fs ∧ ActIs a then (outA fs a).filter fun o => decide (DOk o) else none
/-- What DoActs answers. -/
noncomputable def doAs (fs : List FM) : List AM → List FM × Nat
  | [] => (fs, 0)
  | a :: rs => match doA fs a with
    | none => (fs, 0)
    | some o => ((doAs o rs).1, (doAs o rs).2 + 1)
theorem doA_ok {fs : List FM} {a : AM} {o : List FM} (h : doA fs a = some o) : DOk o := by
  unfold doA at h
  split at h
  · rw [Option.filter_eq_some_iff] at h
    simpa using h.2
  · cases h
theorem doA_of {fs : List FM} {a : AM} {o : List FM} (h1 : DOk fs) (h2 : ActIs a) (h3 : outA fs a = some o) (h4 : DOk o) : doA fs a = some o := by
  unfold doA
  rw [if_pos ⟨h1, h2⟩, h3]
  simp [Option.filter, h4]
theorem doA_no {fs : List FM} {a : AM} (h : ∀ o, ActIs a → outA fs a = some o → ¬ DOk o) : doA fs a = none := by
  unfold doA
  split
  · rename_i hc
    cases ho : outA fs a with
    | none => rfl
    | some o => simp [Option.filter, h o hc.2 ho]
  · rfl
theorem empty_app (t : ByteArray) : (⟨#[]⟩ : ByteArray) ++ t = t := by
  apply ByteArray.ext
  rw [ByteArray.data_append]
  simp
theorem len_put_there {fs : List FM} (h : UpN fs) {f : FM} (hf : f ∈ fs) (g : FM) (e : g.name = f.name) : (putF g fs).length = fs.length := by
  rw [put_len h g, e, without_some h hf]
theorem ok_put {fs : List FM} (h : DOk fs) (g : FM) (hg : FOk g) (hl : (putF g fs).length ≤ 30) : DOk (putF g fs) :=
  DOk.of_up hl (fun f hf => by rcases mem_putF.1 hf with rfl | ⟨hf, _⟩; exact hg; exact h.ok f hf) (h.up.put g)
theorem ok_without {fs : List FM} (h : DOk fs) (n : ByteArray) : DOk (withoutF n fs) :=
  DOk.of_up (Nat.le_trans (without_len n fs) h.1) (fun f hf => h.ok f (mem_withoutF.1 hf).1) (h.up.without n)
theorem doA_add_there {fs : List FM} {n t : ByteArray} {f : FM} (h : DOk fs) (hf : fileOf fs n = some f) : doA fs ⟨1, n, t, ⟨#[]⟩⟩ = if f.text.size + t.size ≤ 20000 then some (putF ⟨n, f.text ++ t, f.kept⟩ fs) else none := by
  obtain ⟨hm, rfl⟩ := fileOf_some hf
  have hok := h.ok f hm
  have ho : outA fs ⟨1, f.name, t, ⟨#[]⟩⟩ = some (putF ⟨f.name, f.text ++ t, f.kept⟩ fs) := by unfold outA; simp [hf]
  have hsz : (f.text ++ t).size = f.text.size + t.size := ByteArray.size_append
  split
  · rename_i hc
    refine doA_of h ⟨hok.1, fun _ => rfl, fun h => absurd rfl h⟩ ho (ok_put h _ ⟨hok.1, ?_, hok.2.2.1, ?_⟩ (by rw [len_put_there h.up hm ⟨f.name, f.text ++ t, f.kept⟩ rfl]; exact h.1))
    · show (f.text ++ t).size ≤ 20000; omega
    · show f.kept ≤ ((f.text ++ t).size : Int); have := hok.2.2.2; omega
  · rename_i hc
    refine doA_no fun o _ e hd => hc ?_
    rw [ho] at e
    cases e
    have := (hd.ok _ (mem_putF.2 (.inl rfl))).2.1
    simp only at this
    omega
theorem doA_add_new {fs : List FM} {n t : ByteArray} (h : DOk fs) (hf : fileOf fs n = none) : doA fs ⟨1, n, t, ⟨#[]⟩⟩ = if (1 ≤ n.size ∧ n.size ≤ 8) ∧ fs.length < 30 ∧ t.size ≤ 20000 then some (putF ⟨n, t, 0⟩ fs) else none := by
  have ho : outA fs ⟨1, n, t, ⟨#[]⟩⟩ = some (putF ⟨n, t, 0⟩ fs) := by unfold outA; simp [hf, empty_app]
  have hl : (putF ⟨n, t, 0⟩ fs).length = fs.length + 1 := by rw [put_len h.up, without_none (fileOf_none hf)]
  split
  · rename_i hc
    exact doA_of h ⟨hc.1, fun _ => rfl, fun h => absurd rfl h⟩ ho (ok_put h _ ⟨hc.1, hc.2.2, Int.le_refl _, by simp⟩ (by omega))
  · rename_i hc
    refine doA_no fun o ha e hd => hc ?_
    rw [ho] at e
    cases e
    have h1 := (hd.ok _ (mem_putF.2 (.inl rfl))).2.1
    have h2 := hd.1
    exact ⟨ha.1, by omega, h1⟩
theorem doA_keep {fs : List FM} {n : ByteArray} (h : DOk fs) : doA fs ⟨2, n, ⟨#[]⟩, ⟨#[]⟩⟩ = (fileOf fs n).map fun f => putF ⟨n, f.text, (f.text.size : Int)⟩ fs := by
  cases hf : fileOf fs n with
  | none => exact doA_no fun o _ e => by unfold outA at e; simp [hf] at e
  | some f =>
    obtain ⟨hm, rfl⟩ := fileOf_some hf
    have hok := h.ok f hm
    exact doA_of h ⟨hok.1, fun _ => rfl, fun _ => rfl⟩ (by unfold outA; simp [hf]) (ok_put h _ ⟨hok.1, hok.2.1, by simp, Int.le_refl _⟩ (by rw [len_put_there h.up hm ⟨f.name, f.text, (f.text.size : Int)⟩ rfl]; exact h.1))
theorem doA_drop {fs : List FM} {n : ByteArray} (h : DOk fs) : doA fs ⟨4, n, ⟨#[]⟩, ⟨#[]⟩⟩ = (fileOf fs n).map fun _ => withoutF n fs := by
  cases hf : fileOf fs n with
  | none => exact doA_no fun o _ e => by unfold outA at e; simp [hf] at e
  | some f =>
    obtain ⟨hm, rfl⟩ := fileOf_some hf
    exact doA_of h ⟨(h.ok f hm).1, fun _ => rfl, fun _ => rfl⟩ (by unfold outA; simp [hf]) (ok_without h _)
theorem doA_move {fs : List FM} {n t : ByteArray} (h : DOk fs) : doA fs ⟨3, n, ⟨#[]⟩, t⟩ = (fileOf fs n).bind fun f => if f.kept = (f.text.size : Int) ∧ t ≠ n ∧ (1 ≤ t.size ∧ t.size ≤ 8) then some (putF ⟨t, f.text, f.kept⟩ (withoutF n fs)) else none := by
  cases hf : fileOf fs n with
  | none => exact doA_no fun o _ e => by unfold outA at e; simp [hf] at e
  | some f =>
    obtain ⟨hm, rfl⟩ := fileOf_some hf
    have hok := h.ok f hm
    have hle := hok.2.2.2
    simp only [Option.bind_some]
    split
    · rename_i hc
      have hl : (putF ⟨t, f.text, f.kept⟩ (withoutF f.name fs)).length ≤ 30 := by
        rw [put_len (h.up.without _)]
        have h1 := without_len t (withoutF f.name fs)
        have h2 := without_some h.up hm
        have h3 := h.1
        show (withoutF t (withoutF f.name fs)).length + 1 ≤ 30
        omega
      refine doA_of h ⟨hok.1, fun h => absurd rfl h, fun _ => rfl⟩ ?_ (ok_put (ok_without h _) _ ⟨hc.2.2, hok.2.1, hok.2.2.1, hok.2.2.2⟩ hl)
      unfold outA
      simp [hf]
      exact ⟨by omega, hc.2.1, hc.2.2⟩
    · rename_i hc
      refine doA_no fun o _ e => ?_
      exfalso
      apply hc
      unfold outA at e
      simp only [hf] at e
      simp at e
      exact ⟨by have := e.1.1; omega, e.1.2.1, e.1.2.2⟩
theorem doA_wrong {fs : List FM} {a : AM} (h : (a.kind ≠ 1 ∧ a.text ≠ ⟨#[]⟩) ∨ (a.kind ≠ 3 ∧ a.dst ≠ ⟨#[]⟩)) : doA fs a = none := by
  refine doA_no fun o ha _ => ?_
  exfalso
  rcases h with ⟨h1, h2⟩ | ⟨h1, h2⟩
  · exact h2 (ha.2.2 h1)
  · exact h2 (ha.2.1 h1)
theorem doA_kind {fs : List FM} {a : AM} (h : a.kind ≠ 1 ∧ a.kind ≠ 2 ∧ a.kind ≠ 3 ∧ a.kind ≠ 4) : doA fs a = none := by
  refine doA_no fun o _ e => ?_
  exfalso
  unfold outA at e
  rw [if_neg h.1] at e
  cases hf : fileOf fs a.name with
  | none => simp [hf] at e
  | some f => simp [hf, h.2.1, h.2.2.1, h.2.2.2] at e
theorem doAs_bad {fs : List FM} (h : ¬ DOk fs) (xs : List AM) : doAs fs xs = (fs, 0) := by
  cases xs with
  | nil => rfl
  | cons a xs =>
    have : doA fs a = none := by unfold doA; rw [if_neg (fun hc => h hc.1)]
    simp [doAs, this]
/-- So far all acts were true, and this is the disk. -/
def Ran (fs : List FM) (xs : List AM) (k : Nat) (o : List FM) : Prop := doAs fs xs = ((doAs o (xs.drop k)).1, (doAs o (xs.drop k)).2 + k)
theorem Ran.start (fs : List FM) (xs : List AM) : Ran fs xs 0 fs := by unfold Ran; simp
theorem Ran.step {fs : List FM} {xs : List AM} {k : Nat} {o o' : List FM} (h : Ran fs xs k o) (hk : k < xs.length) (e : doA o xs[k] = some o') : Ran fs xs (k + 1) o' := by
  unfold Ran at *
  rw [h, List.drop_eq_getElem_cons hk]
  simp only [doAs, e]
  congr 1
  omega
theorem Ran.stop {fs : List FM} {xs : List AM} {k : Nat} {o : List FM} (h : Ran fs xs k o) (hk : k < xs.length) (e : doA o xs[k] = none) : doAs fs xs = (o, k) := by
  unfold Ran at h
  rw [h, List.drop_eq_getElem_cons hk]
  simp [doAs, e]
theorem Ran.all {fs : List FM} {xs : List AM} {o : List FM} (h : Ran fs xs xs.length o) : doAs fs xs = (o, xs.length) := by
  unfold Ran at h
  rw [h, List.drop_length]
  simp [doAs]
end Go.Proofs.Ytplcdcfhfaghiaa
/- GrwE: A region that draws its order, behind its last free operation: one alone may come up at a time: a call, or a value of the memory as it is. -/
namespace Go.Proofs.Ytplcdcfhfaghiaa
set_option maxRecDepth 100000
open Go.RowKit
section
variable {P : Program} {Q : Exit → Act → World → Prop} {md : Region.Mode}
/-- One alone may come up: a call; the rest behind it. -/
theorem wpA_mid {L r : List Oper} {i : Nat} {oi : Oper} {f : FuncId} {args : Array Value} {n : Nat} {l : Array Bool} {a : Act} {w : World} (hr : Region.ready md L.toArray l = [i]) (hi : L.drop i = oi :: r) (hw : Region.wanted oi (yielded L.toArray a.tmps) = true) (hy : (execOp a.eval oi).run P w = .ok (.enter f args) w)
    (h : Calls P f args w fun e y => ∃ v, e = .returned v ∧ wpAny P md L.toArray Q n (l.setIfInBounds i true) (a.put oi.dst v) y) : wpAny P md L.toArray Q (n + 1) l a w := by
  refine ⟨fun h => (by rw [hr] at h; cases h), fun j hj => ?_⟩
  rw [hr, List.mem_singleton] at hj
  subst hj
  unfold wpOp
  rw [at_drop hi]
  dsimp only
  rw [if_pos hw]
  refine Or.inl ?_
  unfold Oper.wp
  rw [hy]
  refine h.mono ?_
  rintro e y ⟨v, rfl, hq⟩
  exact hq
/-- One alone may come up: a value; the rest behind it. -/
theorem wpA_here {L r : List Oper} {i : Nat} {oi : Oper} {v : Value} {n : Nat} {l : Array Bool} {a : Act} {w y : World} (hr : Region.ready md L.toArray l = [i]) (hi : L.drop i = oi :: r) (hw : Region.wanted oi (yielded L.toArray a.tmps) = true) (hy : (execOp a.eval oi).run P w = .ok (.value v) y)
    (h : wpAny P md L.toArray Q n (l.setIfInBounds i true) (a.put oi.dst v) y) : wpAny P md L.toArray Q (n + 1) l a w := by
  refine ⟨fun h => (by rw [hr] at h; cases h), fun j hj => ?_⟩
  rw [hr, List.mem_singleton] at hj
  subst hj
  unfold wpOp
  rw [at_drop hi]
  dsimp only
  rw [if_pos hw]
  refine Or.inl ?_
  unfold Oper.wp
  rw [hy]
  exact h
/-- Two may come up, each a store: in either order. -/
theorem wpA_two {L r r' : List Oper} {i j : Nat} {oi oj : Oper} {n : Nat} {l : Array Bool} {a : Act} {w y z : World} (hr : Region.ready md L.toArray l = [i, j]) (hi : L.drop i = oi :: r) (hj : L.drop j = oj :: r') (hw : Region.wanted oi (yielded L.toArray a.tmps) = true) (hw' : Region.wanted oj (yielded L.toArray a.tmps) = true)
    (hy : (execOp a.eval oi).run P w = .ok .skip y) (hz : (execOp a.eval oj).run P w = .ok .skip z)
    (h : wpAny P md L.toArray Q n (l.setIfInBounds i true) (a.put oi.dst undef) y) (h' : wpAny P md L.toArray Q n (l.setIfInBounds j true) (a.put oj.dst undef) z) : wpAny P md L.toArray Q (n + 1) l a w := by
  refine ⟨fun h => (by rw [hr] at h; cases h), fun k hk => ?_⟩
  rw [hr] at hk
  rcases List.mem_cons.1 hk with rfl | hk
  · unfold wpOp
    rw [at_drop hi]
    dsimp only
    rw [if_pos hw]
    refine Or.inl ?_
    unfold Oper.wp
    rw [hy]
    exact h
  · rw [List.mem_singleton] at hk
    subst hk
    unfold wpOp
    rw [at_drop hj]
    dsimp only
    rw [if_pos hw']
    refine Or.inl ?_
    unfold Oper.wp
    rw [hz]
    exact h'
end
end Go.Proofs.Ytplcdcfhfaghiaa
/- GenA: Rows of elements of which each one holds a row of its own, in memory: one that is read, one that may be written. Nothing of the program is read here. -/
namespace Go.Proofs.Ytplcdcfhfaghiaa
set_option maxRecDepth 100000
open Go.RowKit

/-- A kind of such elements: how one is laid into cells, where its own row lies, and what that row holds. -/
structure NK (R : Type) where
  enc : R → List Value
  sz : Nat
  len : ∀ r, (enc r).length = sz
  loc : R → Option Addr
  inn : R → List Value
def NK.cells {R : Type} (K : NK R) (rs : List R) : List Value := rs.flatMap K.enc
theorem NK.cells_len {R : Type} (K : NK R) (rs : List R) : (K.cells rs).length = rs.length * K.sz := flat_len K.len rs
theorem NK.cells_get {R : Type} (K : NK R) (rs : List R) (j : Nat) (h : j < rs.length) (i : Nat) (hi : i < K.sz) : (K.cells rs)[j * K.sz + i]? = (K.enc rs[j])[i]? := flat_get K.len rs j h i hi
/-- Such a row, as it is read. -/
def GR {R : Type} (K : NK R) (w : World) (a : Option Addr) (rs : List R) (lo hi : Nat) : Prop := RRow w a (K.cells rs) lo hi ∧ ∀ r ∈ rs, RRow w (K.loc r) (K.inn r) lo hi
theorem GR.turned {R : Type} {K : NK R} {w w' : World} {a : Option Addr} {rs : List R} {lo hi lo' hi' : Nat} (h : GR K w a rs lo hi) (t : Turned w w' lo' hi') (hd : hi ≤ lo' ∨ hi' ≤ lo) : GR K w' a rs lo hi := ⟨h.1.turned t hd, fun r hr => (h.2 r hr).turned t hd⟩
theorem GR.below {R : Type} {K : NK R} {w w' : World} {a : Option Addr} {rs : List R} {lo hi : Nat} (h : GR K w a rs lo hi) (hb : Below w.heap.size w w') : GR K w' a rs lo hi := ⟨h.1.below hb, fun r hr => (h.2 r hr).below hb⟩
theorem GR.wide {R : Type} {K : NK R} {w : World} {a : Option Addr} {rs : List R} {lo hi lo' hi' : Nat} (h : GR K w a rs lo hi) (h1 : lo' ≤ lo) (h2 : hi ≤ hi') : GR K w a rs lo' hi' := ⟨h.1.wide h1 h2, fun r hr => (h.2 r hr).wide h1 h2⟩
theorem GR.nil {R : Type} (K : NK R) (w : World) (a : Option Addr) (lo hi : Nat) : GR K w a [] lo hi := ⟨fun h => by simp [NK.cells] at h, by simp⟩
/-- Where it lies, and its cells. -/
theorem GR.at {R : Type} {K : NK R} {w : World} {a : Option Addr} {rs : List R} {lo hi : Nat} (h : GR K w a rs lo hi) (hp : 0 < rs.length) (hz : 0 < K.sz) :
    ∃ b off, a = some ⟨b, off, none⟩ ∧ b < w.heap.size ∧ ∀ j (hj : j < rs.length) i v, (K.enc rs[j])[i]? = some v → w.cell? ⟨b, off + (j * K.sz + i), none⟩ = some v := by
  obtain ⟨b, off, e, _, _, h3, h4⟩ := h.1 (by rw [K.cells_len]; exact Nat.mul_pos hp hz)
  refine ⟨b, off, e, h3, fun j hj i v hv => h4 _ v ?_⟩
  have hi : i < K.sz := by have := (List.getElem?_eq_some_iff.1 hv).1; rw [K.len] at this; exact this
  rw [K.cells_get rs j hj i hi]; exact hv
/-- Such a row that may be written: each one's own row in a block of its own, all in a range. -/
structure GW {R : Type} (K : NK R) (w : World) (g : Nat) (rs : List R) (lo hi : Nat) : Prop where
  out : WCells w g (K.cells rs)
  glo : lo ≤ g
  ghi : g < hi
  rows : ∀ r ∈ rs, K.inn r = [] ∨ ∃ b, K.loc r = some ⟨b, 0, none⟩ ∧ lo ≤ b ∧ b < hi ∧ b ≠ g ∧ WCells w b (K.inn r)
  apart : rs.Pairwise fun r s => K.inn r ≠ [] → K.inn s ≠ [] → K.loc r ≠ K.loc s
theorem GW.gr {R : Type} {K : NK R} {w : World} {g : Nat} {rs : List R} {lo hi : Nat} (h : GW K w g rs lo hi) : GR K w (some ⟨g, 0, none⟩) rs lo hi :=
  ⟨RRow.of_wcells h.out h.glo h.ghi, fun r hr => by
    rcases h.rows r hr with e | ⟨b, e, h1, h2, _, h3⟩
    · rw [e]; intro hp; simp at hp
    · rw [e]; exact RRow.of_wcells h3 h1 h2⟩
theorem GW.turned {R : Type} {K : NK R} {w w' : World} {g : Nat} {rs : List R} {lo hi lo' hi' : Nat} (h : GW K w g rs lo hi) (t : Turned w w' lo' hi') (hd : hi ≤ lo' ∨ hi' ≤ lo) : GW K w' g rs lo hi :=
  ⟨h.out.turned t (by have := h.glo; have := h.ghi; omega), h.glo, h.ghi, fun r hr => by
    rcases h.rows r hr with e | ⟨b, e, h1, h2, h3, h4⟩
    · exact .inl e
    · exact .inr ⟨b, e, h1, h2, h3, h4.turned t (by omega)⟩, h.apart⟩
theorem GW.below {R : Type} {K : NK R} {w w' : World} {g : Nat} {rs : List R} {lo hi : Nat} (h : GW K w g rs lo hi) (hb : Below w.heap.size w w') : GW K w' g rs lo hi :=
  ⟨h.out.below hb h.out.1, h.glo, h.ghi, fun r hr => by
    rcases h.rows r hr with e | ⟨b, e, h1, h2, h3, h4⟩
    · exact .inl e
    · exact .inr ⟨b, e, h1, h2, h3, h4.below hb h4.1⟩, h.apart⟩
theorem GW.wide {R : Type} {K : NK R} {w : World} {g : Nat} {rs : List R} {lo hi lo' hi' : Nat} (h : GW K w g rs lo hi) (h1 : lo' ≤ lo) (h2 : hi ≤ hi') : GW K w g rs lo' hi' :=
  ⟨h.out, Nat.le_trans h1 h.glo, Nat.lt_of_lt_of_le h.ghi h2, fun r hr => by
    rcases h.rows r hr with e | ⟨b, e, q1, q2, q3, q4⟩
    · exact .inl e
    · exact .inr ⟨b, e, by omega, by omega, q3, q4⟩, h.apart⟩
theorem WCells.setW_other {w : World} {g b : Nat} {L : List Value} (h : WCells w b L) (hne : b ≠ g) (off : Nat) (vs : List Value) : WCells (Go.Proofs.Ytplcdcfhfaghiaa.setW w g off vs) b L := by
  induction vs generalizing w off with
  | nil => exact h
  | cons v vs ih => exact ih (h.other ⟨g, off, none⟩ v hne) _
/-- An element is laid anew. -/
theorem GW.put {R : Type} {K : NK R} {w : World} {g : Nat} {rs : List R} {lo hi : Nat} (h : GW K w g rs lo hi) (j : Nat) (hj : j < rs.length) (r : R) (hr : K.inn r = [] ∨ ∃ b, K.loc r = some ⟨b, 0, none⟩ ∧ lo ≤ b ∧ b < hi ∧ b ≠ g ∧ WCells w b (K.inn r))
    (hap : ∀ s ∈ rs, K.inn s ≠ [] → K.inn r ≠ [] → K.loc s ≠ K.loc r) : GW K (Go.Proofs.Ytplcdcfhfaghiaa.setW w g (j * K.sz) (K.enc r)) g (rs.set j r) lo hi := by
  refine ⟨h.out.setElem K.len j hj r, h.glo, h.ghi, fun s hs => ?_, ?_⟩
  · rcases List.mem_or_eq_of_mem_set hs with q | q
    · rcases h.rows s q with e | ⟨b, e, q1, q2, q3, q4⟩
      · exact .inl e
      · exact .inr ⟨b, e, q1, q2, q3, q4.setW_other q3 _ _⟩
    · subst q
      rcases hr with e | ⟨b, e, q1, q2, q3, q4⟩
      · exact .inl e
      · exact .inr ⟨b, e, q1, q2, q3, q4.setW_other q3 _ _⟩
  · have ha := List.pairwise_iff_getElem.1 h.apart
    refine List.pairwise_iff_getElem.2 (fun a b ha' hb' hab h1 h2 => ?_)
    rw [List.length_set] at ha' hb'
    rw [List.getElem_set] at h1 ⊢
    rw [List.getElem_set] at h2 ⊢
    by_cases ea : j = a
    · by_cases eb : j = b
      · omega
      · rw [if_pos ea] at h1 ⊢
        rw [if_neg eb] at h2 ⊢
        exact (hap _ (List.getElem_mem hb') h2 h1).symm
    · rw [if_neg ea] at h1 ⊢
      by_cases eb : j = b
      · rw [if_pos eb] at h2 ⊢
        exact hap _ (List.getElem_mem ha') h1 h2
      · rw [if_neg eb] at h2 ⊢
        exact ha a b ha' hb' hab h1 h2
/-- A fact on a world, in place of how it came to be. -/
theorem body_shade {P : Program} {f : Func} {R : Ending → World → Prop} {x : Exit} {a : Act} {W : World} (p : World → Prop) (h : p W) (k : ∀ W', p W' → bodyPost P f R x a W') : bodyPost P f R x a W := k W h
theorem wp_shade {P : Program} {c : Code} {Q : Exit → Act → World → Prop} {a : Act} {W : World} (p : World → Prop) (h : p W) (k : ∀ W', p W' → Code.wp P c Q a W') : Code.wp P c Q a W := k W h
end Go.Proofs.Ytplcdcfhfaghiaa
