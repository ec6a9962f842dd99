/- Rows of Sizes in the laws: their sizes, their copies, two that are the same (written by gen/mkrow.py). -/
import Derived.Test.YtendbipfmgnjkaaRowsG
import Derived.PlainAid
import Derived.OwnWalk
import Derived.Deep.RegionHeld3
import Derived.Deep.DrawnRows
namespace Go.Proofs.Ytendbipfmgnjkaa
set_option maxRecDepth 100000
open Go.RowKit
attribute [local go_sem ↓] Go.wp_at_zero Go.wp_at_succ

structure PzM where
  group : Int
  text : ByteArray
instance : Inhabited PzM := ⟨⟨0, ⟨#[]⟩⟩⟩
abbrev pzv (f : PzM) : Value := .agg #[.int .i64 f.group, .string f.text]
def pzC (f : PzM) : List Value := [.int .i64 f.group, .string f.text]
theorem pzC_len (f : PzM) : (pzC f).length = 2 := rfl
def pzS (fs : List PzM) : List Value := fs.flatMap pzC
theorem pzS_len (fs : List PzM) : (pzS fs).length = fs.length * 2 := flat_len pzC_len fs
/-- A row in memory. -/
abbrev PzRow (w : World) (a : Option Addr) (fs : List PzM) : Prop := CRow w a (pzS fs)
theorem PzRow.at {w : World} {a : Option Addr} {fs : List PzM} (h : PzRow w a fs) (hp : 0 < fs.length) :
    ∃ b off, a = some ⟨b, off, none⟩ ∧ b < w.heap.size ∧ ∀ j (h : j < fs.length), w.cell? ⟨b, off + j * 2, none⟩ = some (.int .i64 fs[j].group) ∧ w.cell? ⟨b, off + j * 2 + 1, none⟩ = some (.string fs[j].text) := by
  obtain ⟨b, off, e, hb, hc⟩ := h (by rw [pzS_len]; omega)
  exact ⟨b, off, e, hb, fun j hj => ⟨hc (j * 2) _ (flat_get pzC_len fs j hj 0 (by omega)), hc (j * 2 + 1) _ (flat_get pzC_len fs j hj 1 (by omega))⟩⟩
def PzFit (f : PzM) : Prop := f.text.size ≤ 9223372036854775807 ∧ (-9223372036854775808 ≤ f.group ∧ f.group ≤ 9223372036854775807)
def PzFits (fs : List PzM) : Prop := fs.length ≤ 9223372036854775807 ∧ ∀ f ∈ fs, PzFit f
def pzSum : List PzM → Nat
  | [] => 0
  | f :: fs => f.text.size + pzSum fs
theorem pzSum_take (fs : List PzM) (k : Nat) (h : k < fs.length) : pzSum (fs.take (k + 1)) = pzSum (fs.take k) + (fs[k].text.size) := by
  induction fs generalizing k with
  | nil => simp at h
  | cons f fs ih =>
    cases k with
    | zero => simp [pzSum]
    | succ k =>
      have := ih k (by simpa using h)
      simp only [List.take_succ_cons, pzSum, List.getElem_cons_succ]
      omega
theorem pzSum_mem {fs : List PzM} {f : PzM} (h : f ∈ fs) : f.text.size ≤ pzSum fs := by
  induction fs with
  | nil => cases h
  | cons g fs ih =>
    rcases List.mem_cons.1 h with rfl | q
    · simp only [pzSum]; omega
    · have := ih q
      simp only [pzSum]; omega
def SzPostPz (left : Int) (n : Nat) (w : World) (e : Ending) (w' : World) : Prop := ∃ r : Int, e = .returned (.int .i64 r) ∧ -1 ≤ r ∧ (0 ≤ r → r + n = left) ∧ Below w.heap.size w w'
set_option maxHeartbeats 400000 in
theorem szSize_any (f : PzM) (left : Int) (w : World) (h0 : 0 ≤ left) (h1 : left ≤ 1048576) (hf : PzFit f) :
    Calls Try.prog 46 #[pzv f, .int .i64 left] w fun e w' => SzPostPz left (f.text.size) w e w' := by
  have hh := hf
  unfold PzFit at hh
  clear hf
  by_cases c_text : left - f.text.size < 0
  · go_enter Try.func46, Try.ntmps46
    go_wp2_with fail
    go_ret
    exact ⟨-1, rfl, by omega, by first | omega | (intro _; push_cast; omega), (Below.refl _ _).alloc (Nat.le_refl _) _⟩
  · skip
    go_enter Try.func46, Try.ntmps46
    go_wp2_with fail
    go_ret
    exact ⟨left - f.text.size, rfl, by omega, by first | omega | (intro _; push_cast; omega), (Below.refl _ _).alloc (Nat.le_refl _) _⟩
set_option maxHeartbeats 1000000 in
theorem szSizeS_any (a : Option Addr) (fs : List PzM) (cap : Nat) (left : Int) (w : World) (hr : PzRow w a fs) (hf : PzFits fs) (h0 : 0 ≤ left) (h1 : left ≤ 1048576) :
    Calls Try.prog 16 #[.slice a fs.length cap, .int .i64 left] w fun e w' => SzPostPz left (fs.length + pzSum fs) w e w' := by
  have hl := hf.1
  by_cases c1 : left - fs.length < 0
  · clear hr hf
    go_enter Try.func16, Try.ntmps16
    go_wp2_with fail
    go_ret
    exact ⟨-1, rfl, by omega, by omega, Below.refl _ _⟩
  · have HR : Hid (PzRow w a fs) := hr
    have HF : Hid (PzFits fs) := hf
    clear hr hf
    go_enter Try.func16, Try.ntmps16
    go_wp2_with fail
    go_loopw [1, 5] (fun v i wr => ∃ (k : Nat) (l : Int), v = .int .i64 l ∧ i = .int .i64 k ∧ k ≤ fs.length ∧ 0 ≤ l ∧ l + fs.length + pzSum (fs.take k) = left ∧ Below w.heap.size w wr) (fun _ i _ => fs.length - (intOf i).toNat)
    case atStart => exact ⟨0, left - fs.length, rfl, rfl, Nat.zero_le _, by omega, by simp [pzSum], Below.refl _ _⟩
    case round =>
      obtain ⟨k, l, rfl, rfl, hk, hl0, hsum, hb⟩ := hrel
      by_cases hlt : k < fs.length
      · obtain ⟨b, off, rfl, hbl, hc⟩ := PzRow.at (HR.out.stays hb) (by omega)
        obtain ⟨d0, d1⟩ := hc k hlt
        have HS : Hid (l + fs.length + pzSum (fs.take k) = left) := hsum
        have hst := pzSum_take fs k hlt
        have HST : Hid (pzSum (fs.take (k + 1)) = pzSum (fs.take k) + (fs[k].text.size)) := hst
        have hfk := HF.out.2 fs[k] (List.getElem_mem hlt)
        obtain ⟨f, hfe⟩ : ∃ f, f = fs[k] := ⟨_, rfl⟩
        rw [← hfe] at d0 d1 hfk
        have HFE : Hid (f = fs[k]) := hfe
        have HB : Hid (Below w.heap.size w wr) := hb
        have hl1 : l ≤ 1048576 := by omega
        have k0 : (0 : Int) ≤ (k : Int) := by omega
        have k1 : (k : Int) < (fs.length : Int) := by omega
        clear hc hsum hst hfe hb
        go_wp2_with fail
        refine (szSize_any f l _ hl0 hl1 hfk).mono ?_
        rintro e w2 ⟨r, rfl, hr1, hr2, hb2⟩
        have HB2 : Hid (Below w.heap.size w w2) := HB.out.trans (hb2.mono HB.out.size)
        clear hb2
        by_cases hr : r < 0
        · go_wp2_with fail
          go_ret
          exact ⟨-1, rfl, by omega, by omega, HB2.out⟩
        · have hr3 := hr2 (by omega)
          have HR3 : Hid (r + ((f.text.size : Nat) : Int) = l) := hr3
          clear hr2 hr3
          go_wp2_with fail
          go_roundw
          case rel => exact ⟨k + 1, r, rfl, by go_num, by omega, by omega, by rw [HST.out, ← HFE.out]; have := HR3.out; have := HS.out; push_cast at *; omega, HB2.out⟩
          case measure => simp [intOf]; omega
      · obtain rfl : k = fs.length := by omega
        rw [List.take_length] at hsum
        go_wp2_with fail
        go_ret
        exact ⟨l, rfl, by omega, by intro _; push_cast; omega, hb⟩
theorem toSize_any (f : PzM) (w : World) :
    Calls Try.prog 47 #[pzv f] w fun e w' => e = .returned (pzv f) ∧ Below w.heap.size w w' := by
  go_enter Try.func47, Try.ntmps47
  go_wp2_with fail
  refine bodyPost_ret (v := pzv f) (by simp [results, Try.results47, go_sem]) rfl ⟨rfl, ?_⟩
  exact (((Below.refl _ _).alloc (Nat.le_refl _) _).alloc (by simp) _).alloc (by simp; omega) _
/-- A copy, in a block of its own. -/
def ToPostPz (fs : List PzM) (w : World) (e : Ending) (w' : World) : Prop := ∃ g, e = .returned (.slice (some ⟨g, 0, none⟩) fs.length fs.length) ∧ w.heap.size ≤ g ∧ WCells w' g (pzS fs) ∧ Below w.heap.size w w'
theorem infoSize : (Try.prog.info? 56).map (fun i => (i.zero, i.size, i.bytes)) = some (some (.agg #[.int .i64 0, .string ⟨#[]⟩]), 2, 24) := by kernel_rfl
set_option maxHeartbeats 1000000 in
theorem toSizeS_any (a : Option Addr) (fs : List PzM) (cap : Nat) (w : World) (hr : PzRow w a fs) (hl : fs.length ≤ 1048576) :
    Calls Try.prog 18 #[.slice a fs.length cap] w fun e w' => ToPostPz fs w e w' := by
  obtain ⟨i0, hi, hz0, hz1, hz2⟩ := info_parts infoSize
  have HR : Hid (PzRow w a fs) := hr
  clear hr
  go_enter Try.func18, Try.ntmps18
  go_wp2_with (at_make; refine wpList_make_full _ rfl _ _ 46 rfl w.heap.size 56 i0 _ 2 Try.underlying46 hi hz0 hz1 .i64 .i64 _ _ fs.length rfl rfl (by omega) (by omega) ?b2 ?b3 ?b4 ?_)
  case b2 => rw [hz2]; omega
  case b3 => unfold maxLen; omega
  case b4 => omega
  intro wm hownm hgrm
  have hbm : Below w.heap.size w wm := (Below.refl _ _).grown hgrm (Nat.le_refl _) (fun j hj => by simp at hj)
  have hrow : WCells wm w.heap.size (pzS (List.replicate fs.length default)) := by
    have h := own_wcells hownm
    have e : (madeCells #[.int .i64 0, .string ⟨#[]⟩] (fs.length * 2)).toList = pzS (List.replicate fs.length default) := made_flat pzC_len (by decide) #[.int .i64 0, .string ⟨#[]⟩] default rfl _
    rw [e] at h; exact h
  clear hownm hgrm
  go_wp2_with fail
  go_loopw [4] (fun i wr => ∃ (k : Nat) (gs : List PzM), i = .int .i64 k ∧ k ≤ fs.length ∧ gs.length = fs.length ∧ gs.take k = fs.take k ∧ WCells wr w.heap.size (pzS gs) ∧ Below w.heap.size w wr) (fun i _ => fs.length - (intOf i).toNat)
  case atStart => exact ⟨0, _, rfl, by omega, by simp, by simp, hrow, hbm⟩
  case round =>
    clear hrow hbm
    obtain ⟨k, gs, rfl, hk, hgl, hgt, hw, hb⟩ := hrel
    by_cases hlt : k < fs.length
    · obtain ⟨b, off, rfl, hbl, hc⟩ := PzRow.at HR.out (by omega)
      obtain ⟨d0, d1⟩ := hc k hlt
      rw [← hb.cell (p := ⟨b, off + k * 2, none⟩) hbl] at d0
      rw [← hb.cell (p := ⟨b, off + k * 2 + 1, none⟩) hbl] at d1
      obtain ⟨f, hfe⟩ : ∃ f, f = fs[k] := ⟨_, rfl⟩
      rw [← hfe] at d0 d1
      have k0 : (0 : Int) ≤ (k : Int) := by omega
      have k1 : (k : Int) < (fs.length : Int) := by omega
      have HFE : Hid (f = fs[k]) := hfe
      have HG : Hid (gs.length = fs.length ∧ gs.take k = fs.take k) := ⟨hgl, hgt⟩
      clear hc hfe hgl hgt
      go_wp2_with fail
      refine (toSize_any f _).mono ?_
      rintro e w2 ⟨rfl, hb2⟩
      have hw2 := hw.below hb2 hw.1
      have hb3 : Below w.heap.size w w2 := hb.trans (hb2.mono hb.size)
      clear hw hb hb2 d0 d1
      have hgk : k < gs.length := by have := HG.out.1; omega
      obtain ⟨c0, z0⟩ := hw2.2 (k * 2) _ (flat_get pzC_len gs k hgk 0 (by omega))
      obtain ⟨c1, z1⟩ := hw2.2 (k * 2 + 1) _ (flat_get pzC_len gs k hgk 1 (by omega))
      have HW : Hid (WCells w2 w.heap.size (pzS gs)) := hw2
      clear hw2
      have hset := HW.out.setElem pzC_len k hgk f
      have hbn := below_setW hb3 (Nat.le_refl _) (k * 2) (pzC f)
      have HS : Hid (WCells (setW w2 w.heap.size (k * 2) (pzC f)) w.heap.size (pzS (gs.set k f))) := hset
      have HBN : Hid (Below w.heap.size w (setW w2 w.heap.size (k * 2) (pzC f))) := hbn
      clear hset hbn
      go_wp2_with fail
      go_roundw
      case rel =>
        refine ⟨k + 1, gs.set k f, by go_num, by omega, by rw [List.length_set]; exact HG.out.1, ?_, HS.out, HBN.out⟩
        rw [List.take_succ_eq_append_getElem (by rw [List.length_set]; exact hgk), List.take_succ_eq_append_getElem hlt, List.take_set_of_le (Nat.le_refl _), HG.out.2, List.getElem_set_self, HFE.out]
      case measure => simp [intOf]; omega
    · have e : gs = fs := by
        rw [List.take_of_length_le (by omega), List.take_of_length_le (by omega)] at hgt; exact hgt
      subst e
      go_wp2_with fail
      go_ret
      exact ⟨_, rfl, Nat.le_refl _, hw, hb⟩
theorem eqSize_same (f : PzM) (w : World) :
    Calls Try.prog 20 #[pzv f, pzv f] w fun e w' => e = .returned (.bool true) ∧ Below w.heap.size w w' := by
  go_enter Try.func20, Try.ntmps20
  go_wp2_with fail
  go_ret
  exact ⟨rfl, ((Below.refl _ _).alloc (Nat.le_refl _) _).alloc (by simp) _⟩
set_option maxHeartbeats 1000000 in
theorem eqSizeS_same (a b : Option Addr) (fs : List PzM) (ca cb : Nat) (w : World) (ha : PzRow w a fs) (hb : PzRow w b fs) (hl : fs.length ≤ 9000000) :
    Calls Try.prog 21 #[.slice a fs.length ca, .slice b fs.length cb] w fun e w' => e = .returned (.bool true) ∧ Below w.heap.size w w' := by
  have HA : Hid (PzRow w a fs) := ha
  have HB : Hid (PzRow w b fs) := hb
  clear ha hb
  go_enter Try.func21, Try.ntmps21
  go_wp2_with fail
  go_loopw [5] (fun i wr => ∃ (k : Nat), i = .int .i64 k ∧ k ≤ fs.length ∧ Below w.heap.size w wr) (fun i _ => fs.length - (intOf i).toNat)
  case atStart => exact ⟨0, rfl, Nat.zero_le _, Below.refl _ _⟩
  case round =>
    obtain ⟨k, rfl, hk, hbl⟩ := hrel
    by_cases hlt : k < fs.length
    · obtain ⟨b1, o1, rfl, l1, hc1⟩ := PzRow.at (HA.out.stays hbl) (by omega)
      obtain ⟨b2, o2, rfl, l2, hc2⟩ := PzRow.at (HB.out.stays hbl) (by omega)
      obtain ⟨d0, d1⟩ := hc1 k hlt
      obtain ⟨e0, e1⟩ := hc2 k hlt
      obtain ⟨f, hfe⟩ : ∃ f, f = fs[k] := ⟨_, rfl⟩
      rw [← hfe] at d0 d1 e0 e1
      have HS : Hid (Below w.heap.size w wr) := hbl
      have k0 : (0 : Int) ≤ (k : Int) := by omega
      have k1 : (k : Int) < (fs.length : Int) := by omega
      clear hc1 hc2 hfe hbl
      go_wp2_with fail
      go_region_held3 (fun w' => w'.cell? ⟨b1, o1 + k * 2, none⟩ = some (.int .i64 f.group) ∧ w'.cell? ⟨b1, o1 + k * 2 + 1, none⟩ = some (.string f.text) ∧ w'.cell? ⟨b2, o2 + k * 2, none⟩ = some (.int .i64 f.group) ∧ w'.cell? ⟨b2, o2 + k * 2 + 1, none⟩ = some (.string f.text))
        (first | go_keep | (refine ⟨?_, ?_, ?_, ?_⟩ <;> first | (rw [hb2.cell (by exact l1)]; simp [*]) | (rw [hb2.cell (by exact l2)]; simp [*])))
        ((go_at_call 20; refine (eqSize_same f _).mono ?_; rintro e w2 ⟨rfl, hb2⟩))
      all_goals go_wp2_with fail
      all_goals
        have hb3 : Below w.heap.size w w2 := HS.out.trans ((Below.drew (Below.refl _ _)).trans (hb2.mono HS.out.size))
        exact ⟨⟨k + 1, by go_num, by omega, hb3⟩, by simp [intOf]; omega⟩
    · have e : k = fs.length := by omega
      subst e
      go_wp2_with fail
      go_ret
      exact ⟨rfl, hbl⟩
end Go.Proofs.Ytendbipfmgnjkaa
