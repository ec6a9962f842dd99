/- Rows of acts, as the model holds them: their sizes, their copies. -/
import Derived.Test.YtkkpddcncpdnpaaRowsG
import Derived.PlainAid
import Derived.OwnWalk
import Derived.Deep.RegionHeld3
import Derived.Deep.DrawnRows
namespace Go.Proofs.Ytkkpddcncpdnpaa
open Go.RowKit
attribute [local go_sem ↓] Go.wp_at_zero Go.wp_at_succ

/-- An act. -/
structure AM where
  kind : Int
  name : ByteArray
  text : ByteArray
  to : ByteArray
instance : Inhabited AM := ⟨⟨0, ⟨#[]⟩, ⟨#[]⟩, ⟨#[]⟩⟩⟩
abbrev av (f : AM) : Value := .agg #[.int .i64 f.kind, .string f.name, .string f.text, .string f.to]
def acells (f : AM) : List Value := [.int .i64 f.kind, .string f.name, .string f.text, .string f.to]
theorem acells_len (f : AM) : (acells f).length = 4 := rfl
def acs (fs : List AM) : List Value := fs.flatMap acells
theorem acs_len (fs : List AM) : (acs fs).length = fs.length * 4 := flat_len acells_len fs
/-- A row of files in memory. -/
abbrev ARow (w : World) (a : Option Addr) (fs : List AM) : Prop := CRow w a (acs fs)
theorem ARow.at {w : World} {a : Option Addr} {fs : List AM} (h : ARow w a fs) (hp : 0 < fs.length) :
    ∃ b off, a = some ⟨b, off, none⟩ ∧ b < w.heap.size ∧ ∀ j (h : j < fs.length), w.cell? ⟨b, off + j * 4, none⟩ = some (.int .i64 fs[j].kind) ∧ w.cell? ⟨b, off + j * 4 + 1, none⟩ = some (.string fs[j].name) ∧ w.cell? ⟨b, off + j * 4 + 2, none⟩ = some (.string fs[j].text) ∧ w.cell? ⟨b, off + j * 4 + 3, none⟩ = some (.string fs[j].to) := by
  obtain ⟨b, off, e, hb, hc⟩ := h (by rw [acs_len]; omega)
  exact ⟨b, off, e, hb, fun j hj => ⟨hc (j * 4) _ (flat_get acells_len fs j hj 0 (by omega)), hc (j * 4 + 1) _ (flat_get acells_len fs j hj 1 (by omega)), hc (j * 4 + 2) _ (flat_get acells_len fs j hj 2 (by omega)), hc (j * 4 + 3) _ (flat_get acells_len fs j hj 3 (by omega))⟩⟩
/-- What is in the acts: their texts fit a machine. -/
def AFit (fs : List AM) : Prop := fs.length ≤ 9223372036854775807 ∧ ∀ f ∈ fs, f.name.size ≤ 9223372036854775807 ∧ f.text.size ≤ 9223372036854775807 ∧ f.to.size ≤ 9223372036854775807 ∧ -9223372036854775808 ≤ f.kind ∧ f.kind ≤ 9223372036854775807
/-- How many bytes they have. -/
def asum : List AM → Nat
  | [] => 0
  | f :: fs => f.name.size + f.text.size + f.to.size + asum fs
theorem asum_take (fs : List AM) (k : Nat) (h : k < fs.length) : asum (fs.take (k + 1)) = asum (fs.take k) + (fs[k].name.size + fs[k].text.size + fs[k].to.size) := by
  induction fs generalizing k with
  | nil => simp at h
  | cons f fs ih =>
    cases k with
    | zero => simp [asum]
    | succ k =>
      have := ih k (by simpa using h)
      simp only [List.take_succ_cons, asum, List.getElem_cons_succ]
      omega

def SzPostA (left : Int) (n : Nat) (w : World) (e : Ending) (w' : World) : Prop := ∃ r : Int, e = .returned (.int .i64 r) ∧ -1 ≤ r ∧ (0 ≤ r → r + n = left) ∧ Below w.heap.size w w'
set_option maxHeartbeats 400000 in
theorem szAct_any (f : AM) (left : Int) (w : World) (h0 : 0 ≤ left) (h1 : left ≤ 1048576) (hn : f.name.size ≤ 9223372036854775807) (ht : f.text.size ≤ 9223372036854775807) (ho : f.to.size ≤ 9223372036854775807) :
    Calls Try.prog 17 #[av f, .int .i64 left] w fun e w' => SzPostA left (f.name.size + f.text.size + f.to.size) w e w' := by
  by_cases c1 : left - f.name.size < 0
  · go_enter Try.func17, Try.ntmps17
    go_wp2_with fail
    go_ret
    exact ⟨-1, rfl, by omega, by first | omega | (intro _; push_cast; omega), (Below.refl _ _).alloc (Nat.le_refl _) _⟩
  · by_cases c2 : left - f.name.size - f.text.size < 0
    · go_enter Try.func17, Try.ntmps17
      go_wp2_with fail
      go_ret
      exact ⟨-1, rfl, by omega, by first | omega | (intro _; push_cast; omega), (Below.refl _ _).alloc (Nat.le_refl _) _⟩
    · by_cases c3 : left - f.name.size - f.text.size - f.to.size < 0
      · go_enter Try.func17, Try.ntmps17
        go_wp2_with fail
        go_ret
        exact ⟨-1, rfl, by omega, by first | omega | (intro _; push_cast; omega), (Below.refl _ _).alloc (Nat.le_refl _) _⟩
      · go_enter Try.func17, Try.ntmps17
        go_wp2_with fail
        go_ret
        exact ⟨left - f.name.size - f.text.size - f.to.size, rfl, by omega, by first | omega | (intro _; push_cast; omega), (Below.refl _ _).alloc (Nat.le_refl _) _⟩

set_option maxHeartbeats 1000000 in
theorem szActS_any (a : Option Addr) (fs : List AM) (cap : Nat) (left : Int) (w : World) (hr : ARow w a fs) (hf : AFit fs) (h0 : 0 ≤ left) (h1 : left ≤ 1048576) :
    Calls Try.prog 23 #[.slice a fs.length cap, .int .i64 left] w fun e w' => SzPostA left (fs.length + asum fs) w e w' := by
  have hl := hf.1
  by_cases c1 : left - fs.length < 0
  · clear hr hf
    go_enter Try.func23, Try.ntmps23
    go_wp2_with fail
    go_ret
    exact ⟨-1, rfl, by omega, by omega, Below.refl _ _⟩
  · have HR : Hid (ARow w a fs) := hr
    have HF : Hid (AFit fs) := hf
    clear hr hf
    go_enter Try.func23, Try.ntmps23
    go_wp2_with fail
    go_loopw [1, 5] (fun v i wr => ∃ (k : Nat) (l : Int), v = .int .i64 l ∧ i = .int .i64 k ∧ k ≤ fs.length ∧ 0 ≤ l ∧ l + fs.length + asum (fs.take k) = left ∧ Below w.heap.size w wr) (fun _ i _ => fs.length - (intOf i).toNat)
    case atStart => exact ⟨0, left - fs.length, rfl, rfl, Nat.zero_le _, by omega, by simp [asum], Below.refl _ _⟩
    case round =>
      obtain ⟨k, l, rfl, rfl, hk, hl0, hsum, hb⟩ := hrel
      by_cases hlt : k < fs.length
      · obtain ⟨b, off, rfl, hbl, hc⟩ := ARow.at (HR.out.stays hb) (by omega)
        obtain ⟨d0, d1, d2, d3⟩ := hc k hlt
        have HS : Hid (l + fs.length + asum (fs.take k) = left) := hsum
        have hst := asum_take fs k hlt
        have HST : Hid (asum (fs.take (k + 1)) = asum (fs.take k) + (fs[k].name.size + fs[k].text.size + fs[k].to.size)) := hst
        have hfk := HF.out.2 fs[k] (List.getElem_mem hlt)
        obtain ⟨f, hfe⟩ : ∃ f, f = fs[k] := ⟨_, rfl⟩
        rw [← hfe] at d0 d1 d2 d3 hfk
        have HFE : Hid (f = fs[k]) := hfe
        have HB : Hid (Below w.heap.size w wr) := hb
        have hl1 : l ≤ 1048576 := by omega
        have k0 : (0 : Int) ≤ (k : Int) := by omega
        have k1 : (k : Int) < (fs.length : Int) := by omega
        clear hc hsum hst hfe hb
        go_wp2_with fail
        refine (szAct_any f l _ hl0 hl1 hfk.1 hfk.2.1 hfk.2.2.1).mono ?_
        rintro e w2 ⟨r, rfl, hr1, hr2, hb2⟩
        have HB2 : Hid (Below w.heap.size w w2) := HB.out.trans (hb2.mono HB.out.size)
        clear hb2
        by_cases hr : r < 0
        · go_wp2_with fail
          go_ret
          exact ⟨-1, rfl, by omega, by omega, HB2.out⟩
        · have hr3 := hr2 (by omega)
          have HR3 : Hid (r + ((f.name.size + f.text.size + f.to.size : Nat) : Int) = l) := hr3
          clear hr2 hr3
          go_wp2_with fail
          go_roundw
          case rel => exact ⟨k + 1, r, rfl, by go_num, by omega, by omega, by rw [HST.out, ← HFE.out]; have := HR3.out; have := HS.out; push_cast at *; omega, HB2.out⟩
          case measure => simp [intOf]; omega
      · obtain rfl : k = fs.length := by omega
        rw [List.take_length] at hsum
        go_wp2_with fail
        go_ret
        exact ⟨l, rfl, by omega, by intro _; push_cast; omega, hb⟩
theorem toAct_any (f : AM) (w : World) :
    Calls Try.prog 19 #[av f] w fun e w' => e = .returned (av f) ∧ Below w.heap.size w w' := by
  go_enter Try.func19, Try.ntmps19
  go_wp2_with fail
  refine bodyPost_ret (v := av f) (by simp [results, Try.results19, go_sem]) rfl ⟨rfl, ?_⟩
  exact (((Below.refl _ _).alloc (Nat.le_refl _) _).alloc (by simp) _).alloc (by simp; omega) _
/-- A copy of the files, in a block of its own. -/
def ToPostA (fs : List AM) (w : World) (e : Ending) (w' : World) : Prop := ∃ g, e = .returned (.slice (some ⟨g, 0, none⟩) fs.length fs.length) ∧ w.heap.size ≤ g ∧ WCells w' g (acs fs) ∧ Below w.heap.size w w'
theorem infoAct : (Try.prog.info? 41).map (fun i => (i.zero, i.size, i.bytes)) = some (some (.agg #[.int .i64 0, .string ⟨#[]⟩, .string ⟨#[]⟩, .string ⟨#[]⟩]), 4, 56) := by kernel_rfl
set_option maxHeartbeats 1000000 in
theorem toActS_any (a : Option Addr) (fs : List AM) (cap : Nat) (w : World) (hr : ARow w a fs) (hf : AFit fs) (hl : fs.length ≤ 1048576) :
    Calls Try.prog 25 #[.slice a fs.length cap] w fun e w' => ToPostA fs w e w' := by
  obtain ⟨i0, hi, hz0, hz1, hz2⟩ := info_parts infoAct
  have HR : Hid (ARow w a fs) := hr
  have HF : Hid (AFit fs) := hf
  clear hr hf
  go_enter Try.func25, Try.ntmps25
  go_wp2_with (at_make; refine wpList_make_full _ rfl _ _ 49 rfl w.heap.size 41 i0 _ 4 Try.underlying49 hi hz0 hz1 .i64 .i64 _ _ fs.length rfl rfl (by omega) (by omega) ?b2 ?b3 ?b4 ?_)
  case b2 => rw [hz2]; omega
  case b3 => unfold maxLen; omega
  case b4 => omega
  intro wm hownm hgrm
  have hbm : Below w.heap.size w wm := (Below.refl _ _).grown hgrm (Nat.le_refl _) (fun j hj => by simp at hj)
  have hrow : WCells wm w.heap.size (acs (List.replicate fs.length default)) := by
    have h := own_wcells hownm
    have e : (madeCells #[.int .i64 0, .string ⟨#[]⟩, .string ⟨#[]⟩, .string ⟨#[]⟩] (fs.length * 4)).toList = acs (List.replicate fs.length default) := made_flat acells_len (by decide) #[.int .i64 0, .string ⟨#[]⟩, .string ⟨#[]⟩, .string ⟨#[]⟩] default rfl _
    rw [e] at h; exact h
  clear hownm hgrm
  go_wp2_with fail
  go_loopw [4] (fun i wr => ∃ (k : Nat) (gs : List AM), i = .int .i64 k ∧ k ≤ fs.length ∧ gs.length = fs.length ∧ gs.take k = fs.take k ∧ WCells wr w.heap.size (acs gs) ∧ Below w.heap.size w wr) (fun i _ => fs.length - (intOf i).toNat)
  case atStart => exact ⟨0, _, rfl, by omega, by simp, by simp, hrow, hbm⟩
  case round =>
    clear hrow hbm
    obtain ⟨k, gs, rfl, hk, hgl, hgt, hw, hb⟩ := hrel
    by_cases hlt : k < fs.length
    · obtain ⟨b, off, rfl, hbl, hc⟩ := ARow.at HR.out (by omega)
      obtain ⟨d0, d1, d2, d3⟩ := hc k hlt
      rw [← hb.cell (p := ⟨b, off + k * 4, none⟩) hbl] at d0
      rw [← hb.cell (p := ⟨b, off + k * 4 + 1, none⟩) hbl] at d1
      rw [← hb.cell (p := ⟨b, off + k * 4 + 2, none⟩) hbl] at d2
      rw [← hb.cell (p := ⟨b, off + k * 4 + 3, none⟩) hbl] at d3
      obtain ⟨f, hfe⟩ : ∃ f, f = fs[k] := ⟨_, rfl⟩
      rw [← hfe] at d0 d1 d2 d3
      have k0 : (0 : Int) ≤ (k : Int) := by omega
      have k1 : (k : Int) < (fs.length : Int) := by omega
      have HFE : Hid (f = fs[k]) := hfe
      have HG : Hid (gs.length = fs.length ∧ gs.take k = fs.take k) := ⟨hgl, hgt⟩
      clear hc hfe hgl hgt
      go_wp2_with fail
      refine (toAct_any f _).mono ?_
      rintro e w2 ⟨rfl, hb2⟩
      have hw2 := hw.below hb2 hw.1
      have hb3 : Below w.heap.size w w2 := hb.trans (hb2.mono hb.size)
      clear hw hb hb2 d0 d1 d2 d3
      have hgk : k < gs.length := by have := HG.out.1; omega
      obtain ⟨c0, z0⟩ := hw2.2 (k * 4) _ (flat_get acells_len gs k hgk 0 (by omega))
      obtain ⟨c1, z1⟩ := hw2.2 (k * 4 + 1) _ (flat_get acells_len gs k hgk 1 (by omega))
      obtain ⟨c2, z2⟩ := hw2.2 (k * 4 + 2) _ (flat_get acells_len gs k hgk 2 (by omega))
      obtain ⟨c3, z3⟩ := hw2.2 (k * 4 + 3) _ (flat_get acells_len gs k hgk 3 (by omega))
      have HW : Hid (WCells w2 w.heap.size (acs gs)) := hw2
      clear hw2
      have hset := HW.out.setElem acells_len k hgk f
      have hbn := below_setW hb3 (Nat.le_refl _) (k * 4) (acells f)
      have HS : Hid (WCells (setW w2 w.heap.size (k * 4) (acells f)) w.heap.size (acs (gs.set k f))) := hset
      have HBN : Hid (Below w.heap.size w (setW w2 w.heap.size (k * 4) (acells f))) := hbn
      clear hset hbn
      go_wp2_with fail
      go_roundw
      case rel =>
        refine ⟨k + 1, gs.set k f, by go_num, by omega, by rw [List.length_set]; exact HG.out.1, ?_, HS.out, HBN.out⟩
        rw [List.take_succ_eq_append_getElem (by rw [List.length_set]; exact hgk), List.take_succ_eq_append_getElem hlt, List.take_set_of_le (Nat.le_refl _), HG.out.2, List.getElem_set_self, HFE.out]
      case measure => simp [intOf]; omega
    · have e : gs = fs := by
        rw [List.take_of_length_le (by omega), List.take_of_length_le (by omega)] at hgt; exact hgt
      subst e
      go_wp2_with fail
      go_ret
      exact ⟨_, rfl, Nat.le_refl _, hw, hb⟩
end Go.Proofs.Ytkkpddcncpdnpaa
