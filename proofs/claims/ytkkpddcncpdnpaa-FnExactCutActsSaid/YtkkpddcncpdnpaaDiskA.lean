/- Rows of files, as the model holds them: their sizes, their copies, their comparison. -/
import Derived.Test.YtkkpddcncpdnpaaRowsG
import Derived.PlainAid
import Derived.OwnWalk
import Derived.Deep.RegionHeld3
import Derived.Deep.DrawnRows
namespace Go.Proofs.Ytkkpddcncpdnpaa
open Go.RowKit
attribute [local go_sem ↓] Go.wp_at_zero Go.wp_at_succ

/-- A file. -/
structure FM where
  name : ByteArray
  text : ByteArray
  kept : Int
instance : Inhabited FM := ⟨⟨⟨#[]⟩, ⟨#[]⟩, 0⟩⟩
abbrev fv (f : FM) : Value := .agg #[.string f.name, .string f.text, .int .i64 f.kept]
def fcells (f : FM) : List Value := [.string f.name, .string f.text, .int .i64 f.kept]
theorem fcells_len (f : FM) : (fcells f).length = 3 := rfl
def fcs (fs : List FM) : List Value := fs.flatMap fcells
theorem fcs_len (fs : List FM) : (fcs fs).length = fs.length * 3 := flat_len fcells_len fs
/-- A row of files in memory. -/
abbrev FRow (w : World) (a : Option Addr) (fs : List FM) : Prop := CRow w a (fcs fs)
theorem FRow.at {w : World} {a : Option Addr} {fs : List FM} (h : FRow w a fs) (hp : 0 < fs.length) :
    ∃ b off, a = some ⟨b, off, none⟩ ∧ b < w.heap.size ∧ ∀ j (h : j < fs.length), w.cell? ⟨b, off + j * 3, none⟩ = some (.string fs[j].name) ∧ w.cell? ⟨b, off + j * 3 + 1, none⟩ = some (.string fs[j].text) ∧ w.cell? ⟨b, off + j * 3 + 2, none⟩ = some (.int .i64 fs[j].kept) := by
  obtain ⟨b, off, e, hb, hc⟩ := h (by rw [fcs_len]; omega)
  exact ⟨b, off, e, hb, fun j hj => ⟨hc (j * 3) _ (flat_get fcells_len fs j hj 0 (by omega)), hc (j * 3 + 1) _ (flat_get fcells_len fs j hj 1 (by omega)), hc (j * 3 + 2) _ (flat_get fcells_len fs j hj 2 (by omega))⟩⟩
/-- What is in the files: their texts fit a machine. -/
def FFit (fs : List FM) : Prop := fs.length ≤ 9223372036854775807 ∧ ∀ f ∈ fs, f.name.size ≤ 9223372036854775807 ∧ f.text.size ≤ 9223372036854775807 ∧ -9223372036854775808 ≤ f.kept ∧ f.kept ≤ 9223372036854775807
/-- How many bytes they have. -/
def fsum : List FM → Nat
  | [] => 0
  | f :: fs => f.name.size + f.text.size + fsum fs
theorem fsum_take (fs : List FM) (k : Nat) (h : k < fs.length) : fsum (fs.take (k + 1)) = fsum (fs.take k) + (fs[k].name.size + fs[k].text.size) := by
  induction fs generalizing k with
  | nil => simp at h
  | cons f fs ih =>
    cases k with
    | zero => simp [fsum]
    | succ k =>
      have := ih k (by simpa using h)
      simp only [List.take_succ_cons, fsum, List.getElem_cons_succ]
      omega

def SzPost (left : Int) (n : Nat) (w : World) (e : Ending) (w' : World) : Prop := ∃ r : Int, e = .returned (.int .i64 r) ∧ -1 ≤ r ∧ (0 ≤ r → r + n = left) ∧ Below w.heap.size w w'
set_option maxHeartbeats 400000 in
theorem szFile_any (f : FM) (left : Int) (w : World) (h0 : 0 ≤ left) (h1 : left ≤ 1048576) (hn : f.name.size ≤ 9223372036854775807) (ht : f.text.size ≤ 9223372036854775807) :
    Calls Try.prog 58 #[fv f, .int .i64 left] w fun e w' => SzPost left (f.name.size + f.text.size) w e w' := by
  by_cases c1 : left - f.name.size < 0
  · go_enter Try.func58, Try.ntmps58
    go_wp2_with fail
    go_ret
    exact ⟨-1, rfl, by omega, by omega, (Below.refl _ _).alloc (Nat.le_refl _) _⟩
  · by_cases c2 : left - f.name.size - f.text.size < 0
    · go_enter Try.func58, Try.ntmps58
      go_wp2_with fail
      go_ret
      exact ⟨-1, rfl, by omega, by omega, (Below.refl _ _).alloc (Nat.le_refl _) _⟩
    · go_enter Try.func58, Try.ntmps58
      go_wp2_with fail
      go_ret
      exact ⟨left - f.name.size - f.text.size, rfl, by omega, by intro _; push_cast; omega, (Below.refl _ _).alloc (Nat.le_refl _) _⟩

set_option maxHeartbeats 1000000 in
theorem szFileS_any (a : Option Addr) (fs : List FM) (cap : Nat) (left : Int) (w : World) (hr : FRow w a fs) (hf : FFit fs) (h0 : 0 ≤ left) (h1 : left ≤ 1048576) :
    Calls Try.prog 38 #[.slice a fs.length cap, .int .i64 left] w fun e w' => SzPost left (fs.length + fsum fs) w e w' := by
  have hl := hf.1
  by_cases c1 : left - fs.length < 0
  · clear hr hf
    go_enter Try.func38, Try.ntmps38
    go_wp2_with fail
    go_ret
    exact ⟨-1, rfl, by omega, by omega, Below.refl _ _⟩
  · have HR : Hid (FRow w a fs) := hr
    have HF : Hid (FFit fs) := hf
    clear hr hf
    go_enter Try.func38, Try.ntmps38
    go_wp2_with fail
    go_loopw [1, 5] (fun v i wr => ∃ (k : Nat) (l : Int), v = .int .i64 l ∧ i = .int .i64 k ∧ k ≤ fs.length ∧ 0 ≤ l ∧ l + fs.length + fsum (fs.take k) = left ∧ Below w.heap.size w wr) (fun _ i _ => fs.length - (intOf i).toNat)
    case atStart => exact ⟨0, left - fs.length, rfl, rfl, Nat.zero_le _, by omega, by simp [fsum], Below.refl _ _⟩
    case round =>
      obtain ⟨k, l, rfl, rfl, hk, hl0, hsum, hb⟩ := hrel
      by_cases hlt : k < fs.length
      · obtain ⟨b, off, rfl, hbl, hc⟩ := FRow.at (HR.out.stays hb) (by omega)
        obtain ⟨d0, d1, d2⟩ := hc k hlt
        have HS : Hid (l + fs.length + fsum (fs.take k) = left) := hsum
        have hst := fsum_take fs k hlt
        have HST : Hid (fsum (fs.take (k + 1)) = fsum (fs.take k) + (fs[k].name.size + fs[k].text.size)) := hst
        have hfk := HF.out.2 fs[k] (List.getElem_mem hlt)
        obtain ⟨f, hfe⟩ : ∃ f, f = fs[k] := ⟨_, rfl⟩
        rw [← hfe] at d0 d1 d2 hfk
        have HFE : Hid (f = fs[k]) := hfe
        have HB : Hid (Below w.heap.size w wr) := hb
        have hl1 : l ≤ 1048576 := by omega
        have k0 : (0 : Int) ≤ (k : Int) := by omega
        have k1 : (k : Int) < (fs.length : Int) := by omega
        clear hc hsum hst hfe hb
        go_wp2_with fail
        refine (szFile_any f l _ hl0 hl1 hfk.1 hfk.2.1).mono ?_
        rintro e w2 ⟨r, rfl, hr1, hr2, hb2⟩
        have HB2 : Hid (Below w.heap.size w w2) := HB.out.trans (hb2.mono HB.out.size)
        clear hb2
        by_cases hr : r < 0
        · go_wp2_with fail
          go_ret
          exact ⟨-1, rfl, by omega, by omega, HB2.out⟩
        · have hr3 := hr2 (by omega)
          have HR3 : Hid (r + ((f.name.size + f.text.size : Nat) : Int) = l) := hr3
          clear hr2 hr3
          go_wp2_with fail
          go_roundw
          case rel => exact ⟨k + 1, r, rfl, by go_num, by omega, by omega, by rw [HST.out, ← HFE.out]; have := HR3.out; have := HS.out; push_cast at *; omega, HB2.out⟩
          case measure => simp [intOf]; omega
      · obtain rfl : k = fs.length := by omega
        rw [List.take_length] at hsum
        go_wp2_with fail
        go_ret
        exact ⟨l, rfl, by omega, by intro _; push_cast; omega, hb⟩
theorem szDisk_any (a : Option Addr) (fs : List FM) (cap : Nat) (left : Int) (w : World) (hr : FRow w a fs) (hf : FFit fs) (h0 : 0 ≤ left) (h1 : left ≤ 1048576) :
    Calls Try.prog 10 #[.agg #[.slice a fs.length cap], .int .i64 left] w fun e w' => SzPost left (fs.length + fsum fs) w e w' := by
  have HR : Hid (FRow (w.alloc (.cells #[.slice a fs.length cap] 24)) a fs) := hr.stays ((Below.refl _ _).alloc (Nat.le_refl _) _)
  have HF : Hid (FFit fs) := hf
  clear hr hf
  go_enter Try.func10, Try.ntmps10
  go_wp2_with fail
  refine (szFileS_any a fs cap left _ HR.out HF.out h0 h1).mono ?_
  rintro e w2 ⟨r, rfl, hr1, hr2, hb2⟩
  have HB2 : Hid (Below w.heap.size w w2) := ((Below.refl _ _).alloc (Nat.le_refl _) _).trans (hb2.mono (by simp))
  have HR2 : Hid (0 ≤ r → r + ((fs.length + fsum fs : Nat) : Int) = left) := hr2
  clear hb2 hr2
  by_cases hr : r < 0
  · go_wp2_with fail
    go_ret
    exact ⟨-1, rfl, by omega, by omega, HB2.out⟩
  · go_wp2_with fail
    go_ret
    exact ⟨r, rfl, hr1, HR2.out, HB2.out⟩
theorem toFile_any (f : FM) (w : World) :
    Calls Try.prog 59 #[fv f] w fun e w' => e = .returned (fv f) ∧ Below w.heap.size w w' := by
  go_enter Try.func59, Try.ntmps59
  go_wp2_with fail
  refine bodyPost_ret (v := fv f) (by simp [results, Try.results59, go_sem]) rfl ⟨rfl, ?_⟩
  exact (((Below.refl _ _).alloc (Nat.le_refl _) _).alloc (by simp) _).alloc (by simp; omega) _
/-- A copy of the files, in a block of its own. -/
def ToPost (fs : List FM) (w : World) (e : Ending) (w' : World) : Prop := ∃ g, e = .returned (.slice (some ⟨g, 0, none⟩) fs.length fs.length) ∧ w.heap.size ≤ g ∧ WCells w' g (fcs fs) ∧ Below w.heap.size w w'
theorem infoFile : (Try.prog.info? 64).map (fun i => (i.zero, i.size, i.bytes)) = some (some (.agg #[.string ⟨#[]⟩, .string ⟨#[]⟩, .int .i64 0]), 3, 40) := by kernel_rfl
set_option maxHeartbeats 1000000 in
theorem toFileS_any (a : Option Addr) (fs : List FM) (cap : Nat) (w : World) (hr : FRow w a fs) (hf : FFit fs) (hl : fs.length ≤ 1048576) :
    Calls Try.prog 41 #[.slice a fs.length cap] w fun e w' => ToPost fs w e w' := by
  obtain ⟨i0, hi, hz0, hz1, hz2⟩ := info_parts infoFile
  have HR : Hid (FRow w a fs) := hr
  have HF : Hid (FFit fs) := hf
  clear hr hf
  go_enter Try.func41, Try.ntmps41
  go_wp2_with (at_make; refine wpList_make_full _ rfl _ _ 27 rfl w.heap.size 64 i0 _ 3 Try.underlying27 hi hz0 hz1 .i64 .i64 _ _ fs.length rfl rfl (by omega) (by omega) ?b2 ?b3 ?b4 ?_)
  case b2 => rw [hz2]; omega
  case b3 => unfold maxLen; omega
  case b4 => omega
  intro wm hownm hgrm
  have hbm : Below w.heap.size w wm := (Below.refl _ _).grown hgrm (Nat.le_refl _) (fun j hj => by simp at hj)
  have hrow : WCells wm w.heap.size (fcs (List.replicate fs.length default)) := by
    have h := own_wcells hownm
    have e : (madeCells #[.string ⟨#[]⟩, .string ⟨#[]⟩, .int .i64 0] (fs.length * 3)).toList = fcs (List.replicate fs.length default) := made_flat fcells_len (by decide) #[.string ⟨#[]⟩, .string ⟨#[]⟩, .int .i64 0] default rfl _
    rw [e] at h; exact h
  clear hownm hgrm
  go_wp2_with fail
  go_loopw [4] (fun i wr => ∃ (k : Nat) (gs : List FM), i = .int .i64 k ∧ k ≤ fs.length ∧ gs.length = fs.length ∧ gs.take k = fs.take k ∧ WCells wr w.heap.size (fcs gs) ∧ Below w.heap.size w wr) (fun i _ => fs.length - (intOf i).toNat)
  case atStart => exact ⟨0, _, rfl, by omega, by simp, by simp, hrow, hbm⟩
  case round =>
    clear hrow hbm
    obtain ⟨k, gs, rfl, hk, hgl, hgt, hw, hb⟩ := hrel
    by_cases hlt : k < fs.length
    · obtain ⟨b, off, rfl, hbl, hc⟩ := FRow.at HR.out (by omega)
      obtain ⟨d0, d1, d2⟩ := hc k hlt
      rw [← hb.cell (p := ⟨b, off + k * 3, none⟩) hbl] at d0
      rw [← hb.cell (p := ⟨b, off + k * 3 + 1, none⟩) hbl] at d1
      rw [← hb.cell (p := ⟨b, off + k * 3 + 2, none⟩) hbl] at d2
      obtain ⟨f, hfe⟩ : ∃ f, f = fs[k] := ⟨_, rfl⟩
      rw [← hfe] at d0 d1 d2
      have k0 : (0 : Int) ≤ (k : Int) := by omega
      have k1 : (k : Int) < (fs.length : Int) := by omega
      have HFE : Hid (f = fs[k]) := hfe
      have HG : Hid (gs.length = fs.length ∧ gs.take k = fs.take k) := ⟨hgl, hgt⟩
      clear hc hfe hgl hgt
      go_wp2_with fail
      refine (toFile_any f _).mono ?_
      rintro e w2 ⟨rfl, hb2⟩
      have hw2 := hw.below hb2 hw.1
      have hb3 : Below w.heap.size w w2 := hb.trans (hb2.mono hb.size)
      clear hw hb hb2 d0 d1 d2
      have hgk : k < gs.length := by have := HG.out.1; omega
      obtain ⟨c0, z0⟩ := hw2.2 (k * 3) _ (flat_get fcells_len gs k hgk 0 (by omega))
      obtain ⟨c1, z1⟩ := hw2.2 (k * 3 + 1) _ (flat_get fcells_len gs k hgk 1 (by omega))
      obtain ⟨c2, z2⟩ := hw2.2 (k * 3 + 2) _ (flat_get fcells_len gs k hgk 2 (by omega))
      have HW : Hid (WCells w2 w.heap.size (fcs gs)) := hw2
      clear hw2
      have hset := HW.out.setElem fcells_len k hgk f
      have hbn := below_setW hb3 (Nat.le_refl _) (k * 3) (fcells f)
      have HS : Hid (WCells (setW w2 w.heap.size (k * 3) (fcells f)) w.heap.size (fcs (gs.set k f))) := hset
      have HBN : Hid (Below w.heap.size w (setW w2 w.heap.size (k * 3) (fcells f))) := hbn
      clear hset hbn
      go_wp2_with fail
      go_roundw
      case rel =>
        refine ⟨k + 1, gs.set k f, by go_num, by omega, by rw [List.length_set]; exact HG.out.1, ?_, HS.out, HBN.out⟩
        rw [List.take_succ_eq_append_getElem (by rw [List.length_set]; exact hgk), List.take_succ_eq_append_getElem hlt, List.take_set_of_le (Nat.le_refl _), HG.out.2, List.getElem_set_self, HFE.out]
      case measure => simp [intOf]; omega
    · have e : gs = fs := by
        rw [List.take_of_length_le (by omega), List.take_of_length_le (by omega)] at hgt; exact hgt
      subst e
      go_wp2_with fail
      go_ret
      exact ⟨_, rfl, Nat.le_refl _, hw, hb⟩
def ToPostD (fs : List FM) (w : World) (e : Ending) (w' : World) : Prop := ∃ g, e = .returned (.agg #[.slice (some ⟨g, 0, none⟩) fs.length fs.length]) ∧ w.heap.size ≤ g ∧ WCells w' g (fcs fs) ∧ Below w.heap.size w w'
theorem toDisk_any (a : Option Addr) (fs : List FM) (cap : Nat) (w : World) (hr : FRow w a fs) (hf : FFit fs) (hl : fs.length ≤ 1048576) :
    Calls Try.prog 12 #[.agg #[.slice a fs.length cap]] w fun e w' => ToPostD fs w e w' := by
  have hb0 : Below w.heap.size w (((w.alloc (.cells #[.slice a fs.length cap] 24)).alloc (.cells #[.slice none 0 0] 29)).alloc (.cells #[.slice none 0 0] 29)) := (((Below.refl _ _).alloc (Nat.le_refl _) _).alloc (by simp) _).alloc (by simp; omega) _
  have HR : Hid (FRow (((w.alloc (.cells #[.slice a fs.length cap] 24)).alloc (.cells #[.slice none 0 0] 29)).alloc (.cells #[.slice none 0 0] 29)) a fs) := hr.stays hb0
  have HB0 : Hid (Below w.heap.size w (((w.alloc (.cells #[.slice a fs.length cap] 24)).alloc (.cells #[.slice none 0 0] 29)).alloc (.cells #[.slice none 0 0] 29))) := hb0
  have HF : Hid (FFit fs) := hf
  clear hr hf hb0
  go_enter Try.func12, Try.ntmps12
  go_wp2_with fail
  refine (toFileS_any a fs cap _ HR.out HF.out hl).mono ?_
  rintro e w2 ⟨g, rfl, hg, hw, hb⟩
  have hg3 : w.heap.size + 3 ≤ g := by simpa using hg
  have r1 := (((wcells_new (w.alloc (.cells #[.slice a fs.length cap] 24)) #[.slice none 0 0] 29).alloc (.cells #[.slice none 0 0] 29)).grow hb).2 0 _ rfl
  have r2 := ((wcells_new ((w.alloc (.cells #[.slice a fs.length cap] 24)).alloc (.cells #[.slice none 0 0] 29)) #[.slice none 0 0] 29).grow hb).2 0 _ rfl
  simp only [World.size_alloc] at r1 r2
  obtain ⟨c1, f1⟩ := r1
  obtain ⟨c2, f2⟩ := r2
  have HW : Hid (WCells w2 g (fcs fs)) := hw
  have HB : Hid (Below w.heap.size w w2) := HB0.out.trans (hb.mono (by simp; omega))
  clear hw hb hg
  go_wp2_with fail
  refine bodyPost_ret (v := .agg #[.slice (some ⟨g, 0, none⟩) fs.length fs.length]) (by simp [results, Try.results12, go_sem, c1]) rfl ⟨g, rfl, by omega, (HW.out.other _ _ (by simp; omega)).other _ _ (by simp; omega), (HB.out.setCell (by simp; omega) _).setCell (by simp) _⟩
end Go.Proofs.Ytkkpddcncpdnpaa
