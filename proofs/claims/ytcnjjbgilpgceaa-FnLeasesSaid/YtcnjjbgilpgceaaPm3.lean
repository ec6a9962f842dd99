/- Texts of ours, laid one behind the other: LsA, LeM, LtM, LeL, LeP, Draw, DrawB, MemA, SlG, GrwB. -/
import Derived.Test.YtcnjjbgilpgceaaPm2
import Derived.PlainAid
import Derived.OwnWalk
import Derived.Deep.RegionHeld3
import Derived.Deep.DrawnRows
import Derived.Sort.Walk0
import Derived.Deep.QuietTactic
import Derived.BigQuiet
import Derived.OrdersHeld
/- LsA: Rows of Leases in the laws: their sizes, their copies, two that are the same (written by gen/mkrow.py). -/
namespace Go.Proofs.Ytcnjjbgilpgceaa
set_option maxRecDepth 100000
open Go.RowKit
attribute [local go_sem ↓] Go.wp_at_zero Go.wp_at_succ

structure LsM where
  path : ByteArray
  who : Int
  seen : Int
instance : Inhabited LsM := ⟨⟨⟨#[]⟩, 0, 0⟩⟩
abbrev lsv (f : LsM) : Value := .agg #[.string f.path, .int .i64 f.who, .int .i64 f.seen]
def lsC (f : LsM) : List Value := [.string f.path, .int .i64 f.who, .int .i64 f.seen]
theorem lsC_len (f : LsM) : (lsC f).length = 3 := rfl
def lsS (fs : List LsM) : List Value := fs.flatMap lsC
theorem lsS_len (fs : List LsM) : (lsS fs).length = fs.length * 3 := flat_len lsC_len fs
/-- A row in memory. -/
abbrev LsRow (w : World) (a : Option Addr) (fs : List LsM) : Prop := CRow w a (lsS fs)
theorem LsRow.at {w : World} {a : Option Addr} {fs : List LsM} (h : LsRow w a fs) (hp : 0 < fs.length) :
    ∃ b off, a = some ⟨b, off, none⟩ ∧ b < w.heap.size ∧ ∀ j (h : j < fs.length), w.cell? ⟨b, off + j * 3, none⟩ = some (.string fs[j].path) ∧ w.cell? ⟨b, off + j * 3 + 1, none⟩ = some (.int .i64 fs[j].who) ∧ w.cell? ⟨b, off + j * 3 + 2, none⟩ = some (.int .i64 fs[j].seen) := by
  obtain ⟨b, off, e, hb, hc⟩ := h (by rw [lsS_len]; omega)
  exact ⟨b, off, e, hb, fun j hj => ⟨hc (j * 3) _ (flat_get lsC_len fs j hj 0 (by omega)), hc (j * 3 + 1) _ (flat_get lsC_len fs j hj 1 (by omega)), hc (j * 3 + 2) _ (flat_get lsC_len fs j hj 2 (by omega))⟩⟩
def LsFit (f : LsM) : Prop := f.path.size ≤ 9223372036854775807 ∧ (-9223372036854775808 ≤ f.who ∧ f.who ≤ 9223372036854775807) ∧ (-9223372036854775808 ≤ f.seen ∧ f.seen ≤ 9223372036854775807)
def LsFits (fs : List LsM) : Prop := fs.length ≤ 9223372036854775807 ∧ ∀ f ∈ fs, LsFit f
def lsSum : List LsM → Nat
  | [] => 0
  | f :: fs => f.path.size + lsSum fs
theorem lsSum_take (fs : List LsM) (k : Nat) (h : k < fs.length) : lsSum (fs.take (k + 1)) = lsSum (fs.take k) + (fs[k].path.size) := by
  induction fs generalizing k with
  | nil => simp at h
  | cons f fs ih =>
    cases k with
    | zero => simp [lsSum]
    | succ k =>
      have := ih k (by simpa using h)
      simp only [List.take_succ_cons, lsSum, List.getElem_cons_succ]
      omega
theorem lsSum_mem {fs : List LsM} {f : LsM} (h : f ∈ fs) : f.path.size ≤ lsSum fs := by
  induction fs with
  | nil => cases h
  | cons g fs ih =>
    rcases List.mem_cons.1 h with rfl | q
    · simp only [lsSum]; omega
    · have := ih q
      simp only [lsSum]; omega
def SzPostLs (left : Int) (n : Nat) (w : World) (e : Ending) (w' : World) : Prop := ∃ r : Int, e = .returned (.int .i64 r) ∧ -1 ≤ r ∧ (0 ≤ r → r + n = left) ∧ Below w.heap.size w w'
set_option maxHeartbeats 400000 in
theorem szLease_any (f : LsM) (left : Int) (w : World) (h0 : 0 ≤ left) (h1 : left ≤ 1048576) (hf : LsFit f) :
    Calls Try.prog 48 #[lsv f, .int .i64 left] w fun e w' => SzPostLs left (f.path.size) w e w' := by
  have hh := hf
  unfold LsFit at hh
  clear hf
  by_cases c_path : left - f.path.size < 0
  · go_enter Try.func48, Try.ntmps48
    go_wp2_with fail
    go_ret
    exact ⟨-1, rfl, by omega, by first | omega | (intro _; push_cast; omega), (Below.refl _ _).alloc (Nat.le_refl _) _⟩
  · skip
    go_enter Try.func48, Try.ntmps48
    go_wp2_with fail
    go_ret
    exact ⟨left - f.path.size, rfl, by omega, by first | omega | (intro _; push_cast; omega), (Below.refl _ _).alloc (Nat.le_refl _) _⟩
set_option maxHeartbeats 1000000 in
theorem szLeaseS_any (a : Option Addr) (fs : List LsM) (cap : Nat) (left : Int) (w : World) (hr : LsRow w a fs) (hf : LsFits fs) (h0 : 0 ≤ left) (h1 : left ≤ 1048576) :
    Calls Try.prog 21 #[.slice a fs.length cap, .int .i64 left] w fun e w' => SzPostLs left (fs.length + lsSum fs) w e w' := by
  have hl := hf.1
  by_cases c1 : left - fs.length < 0
  · clear hr hf
    go_enter Try.func21, Try.ntmps21
    go_wp2_with fail
    go_ret
    exact ⟨-1, rfl, by omega, by omega, Below.refl _ _⟩
  · have HR : Hid (LsRow w a fs) := hr
    have HF : Hid (LsFits fs) := hf
    clear hr hf
    go_enter Try.func21, Try.ntmps21
    go_wp2_with fail
    go_loopw [1, 5] (fun v i wr => ∃ (k : Nat) (l : Int), v = .int .i64 l ∧ i = .int .i64 k ∧ k ≤ fs.length ∧ 0 ≤ l ∧ l + fs.length + lsSum (fs.take k) = left ∧ Below w.heap.size w wr) (fun _ i _ => fs.length - (intOf i).toNat)
    case atStart => exact ⟨0, left - fs.length, rfl, rfl, Nat.zero_le _, by omega, by simp [lsSum], Below.refl _ _⟩
    case round =>
      obtain ⟨k, l, rfl, rfl, hk, hl0, hsum, hb⟩ := hrel
      by_cases hlt : k < fs.length
      · obtain ⟨b, off, rfl, hbl, hc⟩ := LsRow.at (HR.out.stays hb) (by omega)
        obtain ⟨d0, d1, d2⟩ := hc k hlt
        have HS : Hid (l + fs.length + lsSum (fs.take k) = left) := hsum
        have hst := lsSum_take fs k hlt
        have HST : Hid (lsSum (fs.take (k + 1)) = lsSum (fs.take k) + (fs[k].path.size)) := hst
        have hfk := HF.out.2 fs[k] (List.getElem_mem hlt)
        obtain ⟨f, hfe⟩ : ∃ f, f = fs[k] := ⟨_, rfl⟩
        rw [← hfe] at d0 d1 d2 hfk
        have HFE : Hid (f = fs[k]) := hfe
        have HB : Hid (Below w.heap.size w wr) := hb
        have hl1 : l ≤ 1048576 := by omega
        have k0 : (0 : Int) ≤ (k : Int) := by omega
        have k1 : (k : Int) < (fs.length : Int) := by omega
        clear hc hsum hst hfe hb
        go_wp2_with fail
        refine (szLease_any f l _ hl0 hl1 hfk).mono ?_
        rintro e w2 ⟨r, rfl, hr1, hr2, hb2⟩
        have HB2 : Hid (Below w.heap.size w w2) := HB.out.trans (hb2.mono HB.out.size)
        clear hb2
        by_cases hr : r < 0
        · go_wp2_with fail
          go_ret
          exact ⟨-1, rfl, by omega, by omega, HB2.out⟩
        · have hr3 := hr2 (by omega)
          have HR3 : Hid (r + ((f.path.size : Nat) : Int) = l) := hr3
          clear hr2 hr3
          go_wp2_with fail
          go_roundw
          case rel => exact ⟨k + 1, r, rfl, by go_num, by omega, by omega, by rw [HST.out, ← HFE.out]; have := HR3.out; have := HS.out; push_cast at *; omega, HB2.out⟩
          case measure => simp [intOf]; omega
      · obtain rfl : k = fs.length := by omega
        rw [List.take_length] at hsum
        go_wp2_with fail
        go_ret
        exact ⟨l, rfl, by omega, by intro _; push_cast; omega, hb⟩
theorem toLease_any (f : LsM) (w : World) :
    Calls Try.prog 50 #[lsv f] w fun e w' => e = .returned (lsv f) ∧ Below w.heap.size w w' := by
  go_enter Try.func50, Try.ntmps50
  go_wp2_with fail
  refine bodyPost_ret (v := lsv f) (by simp [results, Try.results50, go_sem]) rfl ⟨rfl, ?_⟩
  exact (((Below.refl _ _).alloc (Nat.le_refl _) _).alloc (by simp) _).alloc (by simp; omega) _
/-- A copy, in a block of its own. -/
def ToPostLs (fs : List LsM) (w : World) (e : Ending) (w' : World) : Prop := ∃ g, e = .returned (.slice (some ⟨g, 0, none⟩) fs.length fs.length) ∧ w.heap.size ≤ g ∧ WCells w' g (lsS fs) ∧ Below w.heap.size w w'
theorem infoLease : (Try.prog.info? 35).map (fun i => (i.zero, i.size, i.bytes)) = some (some (.agg #[.string ⟨#[]⟩, .int .i64 0, .int .i64 0]), 3, 32) := by kernel_rfl
set_option maxHeartbeats 1000000 in
theorem toLeaseS_any (a : Option Addr) (fs : List LsM) (cap : Nat) (w : World) (hr : LsRow w a fs) (hl : fs.length ≤ 1048576) :
    Calls Try.prog 23 #[.slice a fs.length cap] w fun e w' => ToPostLs fs w e w' := by
  obtain ⟨i0, hi, hz0, hz1, hz2⟩ := info_parts infoLease
  have HR : Hid (LsRow w a fs) := hr
  clear hr
  go_enter Try.func23, Try.ntmps23
  go_wp2_with (at_make; refine wpList_make_full _ rfl _ _ 24 rfl w.heap.size 35 i0 _ 3 Try.underlying24 hi hz0 hz1 .i64 .i64 _ _ fs.length rfl rfl (by omega) (by omega) ?b2 ?b3 ?b4 ?_)
  case b2 => rw [hz2]; omega
  case b3 => unfold maxLen; omega
  case b4 => omega
  intro wm hownm hgrm
  have hbm : Below w.heap.size w wm := (Below.refl _ _).grown hgrm (Nat.le_refl _) (fun j hj => by simp at hj)
  have hrow : WCells wm w.heap.size (lsS (List.replicate fs.length default)) := by
    have h := own_wcells hownm
    have e : (madeCells #[.string ⟨#[]⟩, .int .i64 0, .int .i64 0] (fs.length * 3)).toList = lsS (List.replicate fs.length default) := made_flat lsC_len (by decide) #[.string ⟨#[]⟩, .int .i64 0, .int .i64 0] default rfl _
    rw [e] at h; exact h
  clear hownm hgrm
  go_wp2_with fail
  go_loopw [4] (fun i wr => ∃ (k : Nat) (gs : List LsM), i = .int .i64 k ∧ k ≤ fs.length ∧ gs.length = fs.length ∧ gs.take k = fs.take k ∧ WCells wr w.heap.size (lsS gs) ∧ Below w.heap.size w wr) (fun i _ => fs.length - (intOf i).toNat)
  case atStart => exact ⟨0, _, rfl, by omega, by simp, by simp, hrow, hbm⟩
  case round =>
    clear hrow hbm
    obtain ⟨k, gs, rfl, hk, hgl, hgt, hw, hb⟩ := hrel
    by_cases hlt : k < fs.length
    · obtain ⟨b, off, rfl, hbl, hc⟩ := LsRow.at HR.out (by omega)
      obtain ⟨d0, d1, d2⟩ := hc k hlt
      rw [← hb.cell (p := ⟨b, off + k * 3, none⟩) hbl] at d0
      rw [← hb.cell (p := ⟨b, off + k * 3 + 1, none⟩) hbl] at d1
      rw [← hb.cell (p := ⟨b, off + k * 3 + 2, none⟩) hbl] at d2
      obtain ⟨f, hfe⟩ : ∃ f, f = fs[k] := ⟨_, rfl⟩
      rw [← hfe] at d0 d1 d2
      have k0 : (0 : Int) ≤ (k : Int) := by omega
      have k1 : (k : Int) < (fs.length : Int) := by omega
      have HFE : Hid (f = fs[k]) := hfe
      have HG : Hid (gs.length = fs.length ∧ gs.take k = fs.take k) := ⟨hgl, hgt⟩
      clear hc hfe hgl hgt
      go_wp2_with fail
      refine (toLease_any f _).mono ?_
      rintro e w2 ⟨rfl, hb2⟩
      have hw2 := hw.below hb2 hw.1
      have hb3 : Below w.heap.size w w2 := hb.trans (hb2.mono hb.size)
      clear hw hb hb2 d0 d1 d2
      have hgk : k < gs.length := by have := HG.out.1; omega
      obtain ⟨c0, z0⟩ := hw2.2 (k * 3) _ (flat_get lsC_len gs k hgk 0 (by omega))
      obtain ⟨c1, z1⟩ := hw2.2 (k * 3 + 1) _ (flat_get lsC_len gs k hgk 1 (by omega))
      obtain ⟨c2, z2⟩ := hw2.2 (k * 3 + 2) _ (flat_get lsC_len gs k hgk 2 (by omega))
      have HW : Hid (WCells w2 w.heap.size (lsS gs)) := hw2
      clear hw2
      have hset := HW.out.setElem lsC_len k hgk f
      have hbn := below_setW hb3 (Nat.le_refl _) (k * 3) (lsC f)
      have HS : Hid (WCells (setW w2 w.heap.size (k * 3) (lsC f)) w.heap.size (lsS (gs.set k f))) := hset
      have HBN : Hid (Below w.heap.size w (setW w2 w.heap.size (k * 3) (lsC f))) := hbn
      clear hset hbn
      go_wp2_with fail
      go_roundw
      case rel =>
        refine ⟨k + 1, gs.set k f, by go_num, by omega, by rw [List.length_set]; exact HG.out.1, ?_, HS.out, HBN.out⟩
        rw [List.take_succ_eq_append_getElem (by rw [List.length_set]; exact hgk), List.take_succ_eq_append_getElem hlt, List.take_set_of_le (Nat.le_refl _), HG.out.2, List.getElem_set_self, HFE.out]
      case measure => simp [intOf]; omega
    · have e : gs = fs := by
        rw [List.take_of_length_le (by omega), List.take_of_length_le (by omega)] at hgt; exact hgt
      subst e
      go_wp2_with fail
      go_ret
      exact ⟨_, rfl, Nat.le_refl _, hw, hb⟩
theorem eqLease_same (f : LsM) (w : World) :
    Calls Try.prog 51 #[lsv f, lsv f] w fun e w' => e = .returned (.bool true) ∧ Below w.heap.size w w' := by
  go_enter Try.func51, Try.ntmps51
  go_wp2_with fail
  go_ret
  exact ⟨rfl, ((Below.refl _ _).alloc (Nat.le_refl _) _).alloc (by simp) _⟩
set_option maxHeartbeats 1000000 in
theorem eqLeaseS_same (a b : Option Addr) (fs : List LsM) (ca cb : Nat) (w : World) (ha : LsRow w a fs) (hb : LsRow w b fs) (hl : fs.length ≤ 9000000) :
    Calls Try.prog 24 #[.slice a fs.length ca, .slice b fs.length cb] w fun e w' => e = .returned (.bool true) ∧ Below w.heap.size w w' := by
  have HA : Hid (LsRow w a fs) := ha
  have HB : Hid (LsRow w b fs) := hb
  clear ha hb
  go_enter Try.func24, Try.ntmps24
  go_wp2_with fail
  go_loopw [5] (fun i wr => ∃ (k : Nat), i = .int .i64 k ∧ k ≤ fs.length ∧ Below w.heap.size w wr) (fun i _ => fs.length - (intOf i).toNat)
  case atStart => exact ⟨0, rfl, Nat.zero_le _, Below.refl _ _⟩
  case round =>
    obtain ⟨k, rfl, hk, hbl⟩ := hrel
    by_cases hlt : k < fs.length
    · obtain ⟨b1, o1, rfl, l1, hc1⟩ := LsRow.at (HA.out.stays hbl) (by omega)
      obtain ⟨b2, o2, rfl, l2, hc2⟩ := LsRow.at (HB.out.stays hbl) (by omega)
      obtain ⟨d0, d1, d2⟩ := hc1 k hlt
      obtain ⟨e0, e1, e2⟩ := hc2 k hlt
      obtain ⟨f, hfe⟩ : ∃ f, f = fs[k] := ⟨_, rfl⟩
      rw [← hfe] at d0 d1 d2 e0 e1 e2
      have HS : Hid (Below w.heap.size w wr) := hbl
      have k0 : (0 : Int) ≤ (k : Int) := by omega
      have k1 : (k : Int) < (fs.length : Int) := by omega
      clear hc1 hc2 hfe hbl
      go_wp2_with fail
      go_region_held3 (fun w' => w'.cell? ⟨b1, o1 + k * 3, none⟩ = some (.string f.path) ∧ w'.cell? ⟨b1, o1 + k * 3 + 1, none⟩ = some (.int .i64 f.who) ∧ w'.cell? ⟨b1, o1 + k * 3 + 2, none⟩ = some (.int .i64 f.seen) ∧ w'.cell? ⟨b2, o2 + k * 3, none⟩ = some (.string f.path) ∧ w'.cell? ⟨b2, o2 + k * 3 + 1, none⟩ = some (.int .i64 f.who) ∧ w'.cell? ⟨b2, o2 + k * 3 + 2, none⟩ = some (.int .i64 f.seen))
        (first | go_keep | (refine ⟨?_, ?_, ?_, ?_, ?_, ?_⟩ <;> first | (rw [hb2.cell (by exact l1)]; simp [*]) | (rw [hb2.cell (by exact l2)]; simp [*])))
        ((go_at_call 51; refine (eqLease_same f _).mono ?_; rintro e w2 ⟨rfl, hb2⟩))
      all_goals go_wp2_with fail
      all_goals
        have hb3 : Below w.heap.size w w2 := HS.out.trans ((Below.drew (Below.refl _ _)).trans (hb2.mono HS.out.size))
        exact ⟨⟨k + 1, by go_num, by omega, hb3⟩, by simp [intOf]; omega⟩
    · have e : k = fs.length := by omega
      subst e
      go_wp2_with fail
      go_ret
      exact ⟨rfl, hbl⟩
end Go.Proofs.Ytcnjjbgilpgceaa
/- LeM: Leases, plain: what each function of the chapter answers, as lists. -/
namespace Go.Proofs.Ytcnjjbgilpgceaa
set_option maxRecDepth 100000
open Go.RowKit

/-- Two texts in order. -/
abbrev lt9 (a b : ByteArray) : Bool := Op.bytesLess a.toList b.toList
/-- A lease that is right by itself. -/
def lsOne (f : LsM) : Bool := named f.path && inI f.who 1 9 && inI f.seen 0 1000000000
/-- .. and at its place. -/
def lsAt (L : List LsM) (k : Nat) : Bool := lsOne (L.getD k default) && (decide (k = 0) || lt9 (L.getD (k - 1) default).path (L.getD k default).path)
def leasesOk (L : List LsM) : Bool := ((List.range L.length).all (lsAt L)) && decide (L.length ≤ 8)
/-- The first lease of a path. -/
def lsIdx (L : List LsM) (p : ByteArray) : Nat := L.findIdx fun f => f.path.toList == p.toList
def takeOk (L : List LsM) (p : ByteArray) (who now : Int) : Bool := leasesOk L && named p && inI who 1 9 && inI now 0 1000000000
/-- Those ahead of a path, and those behind it. -/
def lsLow (L : List LsM) (p : ByteArray) : List LsM := L.filter fun f => lt9 f.path p
def lsHigh (L : List LsM) (p : ByteArray) : List LsM := L.filter fun f => !(lt9 f.path p) && !(f.path.toList == p.toList)
def takeX (L : List LsM) (p : ByteArray) (who now : Int) : List LsM × Bool :=
  if takeOk L p who now then
    if lsIdx L p < L.length then
      if (L.getD (lsIdx L p) default).who ≠ who ∧ now - (L.getD (lsIdx L p) default).seen < 5 then (L, false)
      else (L.set (lsIdx L p) ⟨(L.getD (lsIdx L p) default).path, who, now⟩, true)
    else if L.length = 8 then (L, false) else (lsLow L p ++ [⟨p, who, now⟩] ++ lsHigh L p, true)
  else (L, false)
def renewX (L : List LsM) (who now : Int) : List LsM := L.map fun f => if f.who = who then ⟨f.path, f.who, now⟩ else f
def dropX9 (L : List LsM) (p : ByteArray) : List LsM := L.filter fun f => !(f.path.toList == p.toList)
def isOld (f : LsM) (now : Int) : Bool := inI f.seen 0 1000000000 && inI now 0 1000000000 && decide (12 ≤ now - f.seen)
def expiredX (L : List LsM) (now : Int) : List ByteArray := (L.filter fun f => isOld f now).map (·.path)
def holderX (L : List LsM) (p : ByteArray) : Int := if lsIdx L p < L.length then (L.getD (lsIdx L p) default).who else 0
/-- What is in a list of leases: few, and their paths short. -/
def LsSmall (L : List LsM) : Prop := L.length ≤ 1048576 ∧ (∀ f ∈ L, f.path.size ≤ 1048576) ∧ LsFits L
theorem leasesOk_len {L : List LsM} (h : leasesOk L = true) : L.length ≤ 8 := by
  unfold leasesOk at h
  rw [Bool.and_eq_true, decide_eq_true_eq] at h
  exact h.2
theorem leasesOk_at {L : List LsM} (h : leasesOk L = true) (k : Nat) (hk : k < L.length) : lsAt L k = true := by
  unfold leasesOk at h
  rw [Bool.and_eq_true] at h
  exact List.all_eq_true.1 h.1 k (by simpa using hk)
theorem leasesOk_mk {L : List LsM} (h : ∀ k, k < L.length → lsAt L k = true) (hl : L.length ≤ 8) : leasesOk L = true := by
  unfold leasesOk
  rw [Bool.and_eq_true, decide_eq_true_eq]
  exact ⟨List.all_eq_true.2 fun k hk => h k (by simpa using hk), hl⟩
theorem getD_ls (L : List LsM) (k : Nat) (h : k < L.length) : L.getD k default = L[k] := by simp [List.getD, h]
theorem lsIdx_found {L : List LsM} {p : ByteArray} {k : Nat} (hk : k < L.length) (h : (L[k].path.toList == p.toList) = true) (hb : ∀ j (hj : j < L.length), j < k → (L[j].path.toList == p.toList) = false) : lsIdx L p = k := by
  unfold lsIdx
  rw [List.findIdx_eq hk]
  exact ⟨h, fun j hj => hb j (by omega) hj⟩
theorem lsIdx_none {L : List LsM} {p : ByteArray} (hb : ∀ j (hj : j < L.length), (L[j].path.toList == p.toList) = false) : lsIdx L p = L.length := by
  unfold lsIdx
  rw [List.findIdx_eq_length]
  intro x hx
  obtain ⟨j, hj, rfl⟩ := List.getElem_of_mem hx
  exact hb j hj
theorem filter_take {α : Type} (f : α → Bool) (L : List α) (k : Nat) (h : k < L.length) : (L.take (k + 1)).filter f = (L.take k).filter f ++ if f L[k] = true then [L[k]] else [] := by
  rw [List.take_succ_eq_append_getElem h, List.filter_append]
  congr 1
  split <;> simp [*]
end Go.Proofs.Ytcnjjbgilpgceaa
/- LtM: Leases that go up by their paths, plain: where one belongs; what the program's search and its insertion make is what the document asks. -/
namespace Go.Proofs.Ytcnjjbgilpgceaa
set_option maxRecDepth 100000
open Go.RowKit

theorem lt9_iff (a b : ByteArray) : lt9 a b = true ↔ a.toList < b.toList := by
  unfold lt9
  rw [bytesLess_eq]
  simp
theorem lt9_trans {a b c : ByteArray} (h : lt9 a b = true) (k : lt9 b c = true) : lt9 a c = true := by
  rw [lt9_iff] at *
  exact List.lt_trans h k
theorem lt9_asymm {a b : ByteArray} (h : lt9 a b = true) : lt9 b a = false := by
  cases hq : lt9 b a with
  | false => rfl
  | true =>
    rw [lt9_iff] at h hq
    exact absurd hq (List.lt_asymm h)
theorem lt9_irr (a : ByteArray) : lt9 a a = false := by
  cases hq : lt9 a a with
  | false => rfl
  | true => have := lt9_asymm hq; rw [hq] at this; cases this
theorem lt9_tri {a b : ByteArray} (h : lt9 a b = false) (k : (a.toList == b.toList) = false) : lt9 b a = true := by
  have h1 : ¬ a.toList < b.toList := fun e => by rw [(lt9_iff a b).2 e] at h; cases h
  rw [lt9_iff]
  by_cases h4 : b.toList < a.toList
  · exact h4
  · have := List.le_antisymm (List.not_lt.1 h1) (List.not_lt.1 h4)
    rw [this] at k
    simp at k
theorem less_not (x y : ByteArray) (h : Op.bytesLess x.toList y.toList = false) (k : Op.bytesLess y.toList x.toList = true) : (x.toList == y.toList) = false := by
  cases hq : (x.toList == y.toList) with
  | false => rfl
  | true =>
    rw [beq_iff_eq.1 hq] at h
    rw [beq_iff_eq.1 hq, h] at k
    cases k
theorem same_of_not {x y : ByteArray} (h : Op.bytesLess x.toList y.toList = false) (k : Op.bytesLess y.toList x.toList = false) : (x.toList == y.toList) = true := by
  cases hq : (x.toList == y.toList) with
  | true => rfl
  | false =>
    have := lt9_tri (a := x) (b := y) h hq
    unfold lt9 at this
    rw [k] at this
    cases this
theorem ba_eq {a b : ByteArray} (h : (a.toList == b.toList) = true) : a = b := by
  have h := beq_iff_eq.1 h
  rw [Go.ByteArray.toList_eq, Go.ByteArray.toList_eq] at h
  exact ByteArray.ext (Array.toList_inj.1 h)
/-- How two texts lie. -/
def cmpS (a b : ByteArray) : Int := if lt9 a b = true then -1 else if lt9 b a = true then 1 else 0
theorem cmpS_neg (a b : ByteArray) : cmpS a b < 0 ↔ lt9 a b = true := by
  unfold cmpS
  split
  · simp [*]
  · split <;> simp [*]
theorem cmpS_zero (a b : ByteArray) : cmpS a b = 0 ↔ (a.toList == b.toList) = true := by
  unfold cmpS
  split
  · rename_i h
    refine ⟨fun e => (by cases e), fun e => ?_⟩
    rw [ba_eq e, lt9_irr] at h
    cases h
  · rename_i h
    split
    · rename_i k
      refine ⟨fun e => (by cases e), fun e => ?_⟩
      rw [ba_eq e, lt9_irr] at k
      cases k
    · rename_i k
      refine ⟨fun _ => ?_, fun _ => rfl⟩
      cases hq : (a.toList == b.toList) with
      | true => rfl
      | false => exact absurd (lt9_tri (by simpa using h) hq) k
/-- Leases that go up. -/
def UpL (L : List LsM) : Prop := L.Pairwise fun a b => lt9 a.path b.path = true
theorem lsAt_get {L : List LsM} {k : Nat} (hk : k < L.length) : lsAt L k = (lsOne L[k] && (decide (k = 0) || lt9 (L.getD (k - 1) default).path L[k].path)) := by
  unfold lsAt
  rw [getD_ls L k hk]
theorem upl_of_ok {L : List LsM} (h : leasesOk L = true) : UpL L := by
  have hk : ∀ k (hk : k + 1 < L.length), lt9 L[k].path L[k + 1].path = true := fun k hk => by
    have := leasesOk_at h (k + 1) hk
    rw [lsAt_get hk] at this
    simp only [Bool.and_eq_true, Bool.or_eq_true, decide_eq_true_eq, Nat.add_one_ne_zero, false_or, Nat.add_sub_cancel] at this
    rw [getD_ls L k (by omega)] at this
    exact this.2
  refine List.pairwise_iff_getElem.2 fun i j hi hj hij => ?_
  induction j with
  | zero => omega
  | succ j ih =>
    rcases Nat.lt_or_eq_of_le (Nat.le_of_lt_succ hij) with e | e
    · exact lt9_trans (ih (by omega) e) (hk j hj)
    · subst e
      exact hk i hj
theorem ones_of_ok {L : List LsM} (h : leasesOk L = true) : ∀ u ∈ L, lsOne u = true := fun u hu => by
  obtain ⟨k, hk, rfl⟩ := List.getElem_of_mem hu
  have := leasesOk_at h k hk
  rw [lsAt_get hk] at this
  simp only [Bool.and_eq_true] at this
  exact this.1
theorem ok_of_upl {L : List LsM} (h : UpL L) (h1 : ∀ u ∈ L, lsOne u = true) (h8 : L.length ≤ 8) : leasesOk L = true := by
  refine leasesOk_mk (fun k hk => ?_) h8
  rw [lsAt_get hk, h1 _ (List.getElem_mem hk)]
  by_cases h0 : k = 0
  · simp [h0]
  · rw [getD_ls L (k - 1) (by omega), List.pairwise_iff_getElem.1 h (k - 1) k (by omega) hk (by omega)]
    simp
/-- Where a path belongs, and whether it is there. -/
def posL (L : List LsM) (p : ByteArray) : Nat := (lsLow L p).length
def hereL (L : List LsM) (p : ByteArray) : Bool := decide (lsIdx L p < L.length)
/-- A place that parts the leases is the one. -/
theorem low_is {L : List LsM} {p : ByteArray} {i : Nat} (h1 : ∀ j (hj : j < L.length), j < i → lt9 L[j].path p = true) (h2 : ∀ j (hj : j < L.length), i ≤ j → lt9 L[j].path p = false) : lsLow L p = L.take i := by
  have a1 : ∀ x ∈ L.take i, lt9 x.path p = true := fun x hx => by
    obtain ⟨j, hj, rfl⟩ := List.getElem_of_mem hx
    rw [List.length_take] at hj
    rw [List.getElem_take]
    exact h1 j (by omega) (by omega)
  have a2 : ∀ x ∈ L.drop i, lt9 x.path p = false := fun x hx => by
    obtain ⟨j, hj, rfl⟩ := List.getElem_of_mem hx
    rw [List.length_drop] at hj
    rw [List.getElem_drop]
    exact h2 (i + j) (by omega) (by omega)
  unfold lsLow
  conv => lhs; rw [← List.take_append_drop i L]
  rw [List.filter_append, List.filter_eq_self.2 a1, List.filter_eq_nil_iff.2 (fun x hx => by rw [a2 x hx]; simp), List.append_nil]
theorem pos_is {L : List LsM} {p : ByteArray} {i : Nat} (hi : i ≤ L.length) (h1 : ∀ j (hj : j < L.length), j < i → lt9 L[j].path p = true) (h2 : ∀ j (hj : j < L.length), i ≤ j → lt9 L[j].path p = false) : posL L p = i := by
  unfold posL
  rw [low_is h1 h2, List.length_take]
  omega
/-- Of leases that go up the place of a path parts them. -/
theorem pos_low {L : List LsM} (hs : UpL L) (p : ByteArray) : (∀ j (hj : j < L.length), j < posL L p → lt9 L[j].path p = true) ∧ (∀ j (hj : j < L.length), posL L p ≤ j → lt9 L[j].path p = false) ∧ posL L p ≤ L.length := by
  unfold UpL at hs
  have key : ∃ i, i ≤ L.length ∧ (∀ j (hj : j < L.length), j < i → lt9 L[j].path p = true) ∧ (∀ j (hj : j < L.length), i ≤ j → lt9 L[j].path p = false) := by
    induction L with
    | nil => exact ⟨0, Nat.le_refl _, fun j hj => by simp at hj, fun j hj => by simp at hj⟩
    | cons x L ih =>
      have hc := List.pairwise_cons.1 hs
      cases hx : lt9 x.path p with
      | true =>
        obtain ⟨i, hi, g1, g2⟩ := ih hc.2
        refine ⟨i + 1, by simpa using hi, fun j hj hji => ?_, fun j hj hji => ?_⟩
        · cases j with
          | zero => exact hx
          | succ j => exact g1 j (by simpa using hj) (by omega)
        · cases j with
          | zero => omega
          | succ j => exact g2 j (by simpa using hj) (by omega)
      | false =>
        refine ⟨0, Nat.zero_le _, fun j _ hji => by omega, fun j hj _ => ?_⟩
        cases j with
        | zero => exact hx
        | succ j =>
          have hj' : j < L.length := by simpa using hj
          show lt9 L[j].path p = false
          cases hq : lt9 L[j].path p with
          | false => rfl
          | true => rw [lt9_trans (hc.1 _ (List.getElem_mem hj')) hq] at hx; cases hx
  obtain ⟨i, hi, g1, g2⟩ := key
  rw [pos_is hi g1 g2]
  exact ⟨g1, g2, hi⟩
/-- It is there just when it lies at its place. -/
theorem here_iff {L : List LsM} (hs : UpL L) (p : ByteArray) : hereL L p = true ↔ ∃ h : posL L p < L.length, (L[posL L p].path.toList == p.toList) = true := by
  obtain ⟨g1, g2, g3⟩ := pos_low hs p
  unfold hereL
  rw [decide_eq_true_eq]
  constructor
  · intro h
    obtain ⟨k, hk⟩ : ∃ k, k = lsIdx L p := ⟨_, rfl⟩
    have he : (L[lsIdx L p].path.toList == p.toList) = true := by
      unfold lsIdx
      exact List.findIdx_getElem (w := h)
    have hb := ba_eq he
    have h1 : posL L p ≤ lsIdx L p := by
      rcases Nat.lt_or_ge (lsIdx L p) (posL L p) with e | e
      · have := g1 _ h e; rw [hb, lt9_irr] at this; cases this
      · exact e
    rcases Nat.lt_or_eq_of_le h1 with e | e
    · have q1 := List.pairwise_iff_getElem.1 hs (posL L p) (lsIdx L p) (by omega) h e
      have q2 := g2 (posL L p) (by omega) (Nat.le_refl _)
      rw [hb] at q1
      rw [q1] at q2
      cases q2
    · have : posL L p < L.length := by omega
      refine ⟨this, ?_⟩
      have e2 : L[posL L p] = L[lsIdx L p] := by congr 1
      rw [e2]
      exact he
  · rintro ⟨h, e⟩
    unfold lsIdx
    exact List.findIdx_lt_length_of_exists ⟨_, List.getElem_mem h, e⟩
theorem idx_here {L : List LsM} (hs : UpL L) {p : ByteArray} (h : hereL L p = true) : lsIdx L p = posL L p := by
  obtain ⟨h1, h2⟩ := (here_iff hs p).1 h
  obtain ⟨g1, _, _⟩ := pos_low hs p
  refine lsIdx_found h1 h2 fun j hj hji => ?_
  cases hq : (L[j].path.toList == p.toList) with
  | false => rfl
  | true => have := g1 j hj hji; rw [ba_eq hq, lt9_irr] at this; cases this
theorem high_is {L : List LsM} (hs : UpL L) {p : ByteArray} (h : hereL L p = false) : lsHigh L p = L.drop (posL L p) := by
  obtain ⟨g1, g2, g3⟩ := pos_low hs p
  have a1 : ∀ x ∈ L.take (posL L p), (!(lt9 x.path p) && !(x.path.toList == p.toList)) = false := fun x hx => by
    obtain ⟨j, hj, rfl⟩ := List.getElem_of_mem hx
    rw [List.length_take] at hj
    rw [List.getElem_take, g1 j (by omega) (by omega)]
    rfl
  have a2 : ∀ x ∈ L.drop (posL L p), (!(lt9 x.path p) && !(x.path.toList == p.toList)) = true := fun x hx => by
    obtain ⟨j, hj, rfl⟩ := List.getElem_of_mem hx
    rw [List.length_drop] at hj
    rw [List.getElem_drop, g2 _ (by omega) (by omega)]
    cases hq : (L[posL L p + j].path.toList == p.toList) with
    | false => rfl
    | true =>
      have : hereL L p = true := by
        unfold hereL lsIdx
        rw [decide_eq_true_eq]
        exact List.findIdx_lt_length_of_exists ⟨_, List.getElem_mem (by omega), hq⟩
      rw [h] at this
      cases this
  unfold lsHigh
  conv => lhs; rw [← List.take_append_drop (posL L p) L]
  rw [List.filter_append, List.filter_eq_self.2 a2, List.filter_eq_nil_iff.2 (fun x hx => by rw [a1 x hx]; simp), List.nil_append]
/-- What is taken. -/
def mayX (f : LsM) (who now : Int) : Bool := (f.who == who) || (inI f.seen 0 1000000000 && inI now 0 1000000000 && decide (5 ≤ now - f.seen))
theorem take_is {L : List LsM} (p : ByteArray) (who now : Int) (h : takeOk L p who now = true) :
    takeX L p who now = if hereL L p = true then (if mayX (L.getD (posL L p) default) who now = true then (L.set (posL L p) ⟨p, who, now⟩, true) else (L, false)) else if L.length = 8 then (L, false) else (L.take (posL L p) ++ [⟨p, who, now⟩] ++ L.drop (posL L p), true) := by
  have hok : leasesOk L = true := by unfold takeOk at h; simp only [Bool.and_eq_true] at h; exact h.1.1.1
  have hnow : inI now 0 1000000000 = true := by unfold takeOk at h; simp only [Bool.and_eq_true] at h; exact h.2
  have hs := upl_of_ok hok
  unfold takeX
  rw [if_pos h]
  by_cases hh : hereL L p = true
  · have hi := idx_here hs hh
    obtain ⟨h1, h2⟩ := (here_iff hs p).1 hh
    rw [if_pos hh, hi, if_pos h1, getD_ls L _ h1]
    have hseen : inI L[posL L p].seen 0 1000000000 = true := by
      have := ones_of_ok hok _ (List.getElem_mem h1)
      unfold lsOne at this
      simp only [Bool.and_eq_true] at this
      exact this.2
    have hm : mayX L[posL L p] who now = true ↔ ¬ (L[posL L p].who ≠ who ∧ now - L[posL L p].seen < 5) := by
      unfold mayX
      rw [hseen, hnow]
      simp
      omega
    by_cases hm' : mayX L[posL L p] who now = true
    · rw [if_pos hm', if_neg (hm.1 hm'), ba_eq h2]
    · rw [if_neg hm', if_pos (Classical.byContradiction fun e => hm' (hm.2 e))]
  · rw [if_neg hh]
    have hh' : hereL L p = false := by simpa using hh
    have : ¬ lsIdx L p < L.length := by unfold hereL at hh; simpa using hh
    rw [if_neg this, high_is hs hh', low_is (pos_low hs p).1 (pos_low hs p).2.1]
end Go.Proofs.Ytcnjjbgilpgceaa
/- LeL: How many leases there are behind a call; plain. -/
namespace Go.Proofs.Ytcnjjbgilpgceaa
set_option maxRecDepth 100000
open Go.RowKit

theorem renewX_len (L : List LsM) (who now : Int) : (renewX L who now).length = L.length := List.length_map ..
theorem dropX9_len (L : List LsM) (p : ByteArray) : (dropX9 L p).length ≤ L.length := List.length_filter_le ..
theorem expiredX_len (L : List LsM) (now : Int) : (expiredX L now).length ≤ L.length := by unfold expiredX; rw [List.length_map]; exact List.length_filter_le ..
theorem takeX_len (L : List LsM) (p : ByteArray) (who now : Int) : (takeX L p who now).1.length ≤ 2 * L.length + 1 := by
  have l1 := List.length_filter_le (fun f : LsM => lt9 f.path p) L
  have l2 := List.length_filter_le (fun f : LsM => !(lt9 f.path p) && !(f.path.toList == p.toList)) L
  unfold takeX
  split
  · split
    · split
      · show L.length ≤ _; omega
      · show (L.set _ _).length ≤ _; rw [List.length_set]; omega
    · split
      · show L.length ≤ _; omega
      · show (lsLow L p ++ [_] ++ lsHigh L p).length ≤ _
        unfold lsLow lsHigh
        simp only [List.length_append, List.length_singleton]
        omega
  · show L.length ≤ _; omega
theorem ls_small {L : List LsM} (h : lsSum L ≤ 1048576) : ∀ u ∈ L, u.path.size ≤ 1048576 := fun u hu => by have := lsSum_mem hu; omega
end Go.Proofs.Ytcnjjbgilpgceaa
/- LeP: Leases, plain: what is taken keeps leases right; all that the law of leases asks. -/
namespace Go.Proofs.Ytcnjjbgilpgceaa
set_option maxRecDepth 100000
open Go.RowKit

/-- The path of the law. -/
def pathQ9 : ByteArray := ⟨#[47, 108, 101, 97, 115, 101]⟩
/-- No byte of it is an l. -/
def noL (t : ByteArray) : Bool := t.data.toList.all (· != 108)
theorem noL_q9 {t : ByteArray} (h : noL t = true) : (t.toList == pathQ9.toList) = false := by
  cases hq : (t.toList == pathQ9.toList) with
  | false => rfl
  | true => rw [ba_eq hq] at h; revert h; decide
theorem named_q9 : named pathQ9 = true := by decide +kernel
/-- A lease as it is drawn. -/
def LsD (f : LsM) : Prop := noL f.path = true ∧ f.path.size ≤ 12 ∧ (1 ≤ f.who ∧ f.who ≤ 3) ∧ (0 ≤ f.seen ∧ f.seen ≤ 19)
structure LGood (L : List LsM) (m : Nat) : Prop where
  ok : leasesOk L = true
  few : L.length ≤ m
  all : ∀ f ∈ L, LsD f
theorem upl_paths {L M : List LsM} (h : L.map (·.path) = M.map (·.path)) (hs : UpL L) : UpL M := by
  have k : (L.map (·.path)).Pairwise fun a b => lt9 a b = true := List.pairwise_map.2 hs
  rw [h] at k
  exact List.pairwise_map.1 k
theorem upl_mid {L : List LsM} (hs : UpL L) {x : LsM} (h : hereL L x.path = false) : UpL (L.take (posL L x.path) ++ [x] ++ L.drop (posL L x.path)) := by
  obtain ⟨g1, g2, g3⟩ := pos_low hs x.path
  have hd : ∀ y ∈ L.drop (posL L x.path), lt9 x.path y.path = true := fun y hy => by
    have hy' := hy
    rw [← high_is hs h] at hy'
    unfold lsHigh at hy'
    have := (List.mem_filter.1 hy').2
    simp only [Bool.and_eq_true, Bool.not_eq_true'] at this
    exact lt9_tri this.1 this.2
  have ht : ∀ y ∈ L.take (posL L x.path), lt9 y.path x.path = true := fun y hy => by
    rw [← low_is g1 g2] at hy
    unfold lsLow at hy
    exact (List.mem_filter.1 hy).2
  unfold UpL
  rw [List.append_assoc, List.pairwise_append]
  refine ⟨List.Pairwise.sublist (List.take_sublist _ _) hs, ?_, fun a ha b hb => ?_⟩
  · rw [List.singleton_append, List.pairwise_cons]
    exact ⟨hd, List.Pairwise.sublist (List.drop_sublist _ _) hs⟩
  · rw [List.singleton_append] at hb
    rcases List.mem_cons.1 hb with rfl | hb
    · exact ht a ha
    · exact lt9_trans (ht a ha) (hd b hb)
theorem one_iff (f : LsM) : lsOne f = true ↔ named f.path = true ∧ (1 ≤ f.who ∧ f.who ≤ 9) ∧ (0 ≤ f.seen ∧ f.seen ≤ 1000000000) := by
  unfold lsOne
  rw [Bool.and_eq_true, Bool.and_eq_true, inI_iff, inI_iff, and_assoc]
theorem take_parts {L : List LsM} {p : ByteArray} {who now : Int} (h : takeOk L p who now = true) : leasesOk L = true ∧ lsOne ⟨p, who, now⟩ = true := by
  unfold takeOk at h
  unfold lsOne
  simp only [Bool.and_eq_true] at h ⊢
  exact ⟨h.1.1.1, ⟨h.1.1.2, h.1.2⟩, h.2⟩
theorem take_mk {L : List LsM} {p : ByteArray} {who now : Int} (h : leasesOk L = true) (k : lsOne ⟨p, who, now⟩ = true) : takeOk L p who now = true := by
  unfold takeOk
  unfold lsOne at k
  simp only [Bool.and_eq_true] at k ⊢
  exact ⟨⟨⟨h, k.1.1⟩, k.1.2⟩, k.2⟩
/-- What is taken keeps leases right. -/
theorem take_keeps {L : List LsM} {p : ByteArray} {who now : Int} (h : takeOk L p who now = true) : leasesOk (takeX L p who now).1 = true := by
  obtain ⟨h1, h2⟩ := take_parts h
  have hs := upl_of_ok h1
  have ho := ones_of_ok h1
  have h8 := leasesOk_len h1
  rw [take_is p who now h]
  split
  · rename_i hh
    obtain ⟨hlt, he⟩ := (here_iff hs p).1 hh
    split
    · refine ok_of_upl (upl_paths ?_ hs) (fun u hu => ?_) (by rw [List.length_set]; exact h8)
      · rw [List.map_set]
        show L.map (·.path) = (L.map (·.path)).set (posL L p) p
        have e : (L.map (·.path))[posL L p]'(by simpa using hlt) = p := by rw [List.getElem_map]; exact ba_eq he
        have k := List.set_getElem_self (show posL L p < (L.map (·.path)).length by simpa using hlt)
        rw [e] at k
        exact k.symm
      · rcases List.mem_or_eq_of_mem_set hu with h | h
        · exact ho u h
        · rw [h]; exact h2
    · exact h1
  · rename_i hh
    split
    · exact h1
    · rename_i hn8
      refine ok_of_upl (upl_mid (x := ⟨p, who, now⟩) hs (by simpa using hh)) (fun u hu => ?_) ?_
      · simp only [List.mem_append, List.mem_singleton] at hu
        rcases hu with (h | h) | h
        · exact ho u (List.mem_of_mem_take h)
        · rw [h]; exact h2
        · exact ho u (List.mem_of_mem_drop h)
      · have := (pos_low hs p).2.2
        simp only [List.length_append, List.length_take, List.length_drop, List.length_cons, List.length_nil]
        omega
theorem idx_of_mem {M : List LsM} (hs : UpL M) {u : LsM} (hu : u ∈ M) : lsIdx M u.path < M.length ∧ M.getD (lsIdx M u.path) default = u := by
  obtain ⟨k, hk, rfl⟩ := List.getElem_of_mem hu
  have e : lsIdx M M[k].path = k := lsIdx_found hk (by simp) fun j hj hjk => by
    have := List.pairwise_iff_getElem.1 hs j k hj hk hjk
    cases hq : (M[j].path.toList == M[k].path.toList) with
    | false => rfl
    | true => rw [ba_eq hq, lt9_irr] at this; cases this
  rw [e]
  exact ⟨hk, getD_ls M k hk⟩
theorem holder_mem {M : List LsM} (hs : UpL M) {u : LsM} (hu : u ∈ M) : holderX M u.path = u.who := by
  obtain ⟨h1, h2⟩ := idx_of_mem hs hu
  unfold holderX
  rw [if_pos h1, h2]
theorem holder_no {M : List LsM} {p : ByteArray} (h : ∀ f ∈ M, (f.path.toList == p.toList) = false) : holderX M p = 0 := by
  unfold holderX
  rw [lsIdx_none fun j hj => h _ (List.getElem_mem hj), if_neg (Nat.lt_irrefl _)]
/-- Another one's is taken just when it is old. -/
theorem take_other {M : List LsM} {u : LsM} {who now : Int} (h : leasesOk M = true) (hu : u ∈ M) (hw : u.who ≠ who) (ho : lsOne ⟨u.path, who, now⟩ = true) :
    takeX M u.path who now = if now - u.seen < 5 then (M, false) else (M.set (lsIdx M u.path) ⟨u.path, who, now⟩, true) := by
  obtain ⟨h1, h2⟩ := idx_of_mem (upl_of_ok h) hu
  unfold takeX
  rw [if_pos (take_mk h ho), if_pos h1, h2]
  by_cases hq : now - u.seen < 5
  · rw [if_pos hq, if_pos ⟨hw, hq⟩]
  · rw [if_neg hq, if_neg fun e => hq e.2]
theorem lsum_le {M : List LsM} {c : Nat} (h : ∀ f ∈ M, f.path.size ≤ c) : lsSum M ≤ c * M.length := by
  induction M with
  | nil => exact Nat.le_refl _
  | cons x M ih =>
    have h1 := h x (List.mem_cons_self ..)
    have h2 := ih fun f hf => h f (List.mem_cons_of_mem _ hf)
    show x.path.size + lsSum M ≤ c * (M.length + 1)
    rw [Nat.mul_add]
    omega
/-- What is drawn next. -/
theorem LGood.take {L : List LsM} {m : Nat} (h : LGood L m) {p : ByteArray} {who now : Int} (h1 : named p = true) (h2 : noL p = true) (h3 : p.size ≤ 12) (hw : 1 ≤ who ∧ who ≤ 3) (hn : 0 ≤ now ∧ now ≤ 19) : LGood (takeX L p who now).1 (m + 1) := by
  have hk : takeOk L p who now = true := take_mk h.ok ((one_iff _).2 ⟨h1, ⟨hw.1, by show who ≤ 9; omega⟩, hn.1, by show now ≤ 1000000000; omega⟩)
  have hf := h.few
  have hx : LsD ⟨p, who, now⟩ := ⟨h2, h3, hw, hn⟩
  refine ⟨take_keeps hk, ?_, fun f hf => ?_⟩
  · rw [take_is p who now hk]
    have := (pos_low (upl_of_ok h.ok) p).2.2
    split
    · split
      · show (L.set _ _).length ≤ m + 1
        rw [List.length_set]; omega
      · show L.length ≤ m + 1
        omega
    · split
      · show L.length ≤ m + 1
        omega
      · simp only [List.length_append, List.length_take, List.length_drop, List.length_cons, List.length_nil]
        omega
  · rw [take_is p who now hk] at hf
    split at hf
    · split at hf
      · rcases List.mem_or_eq_of_mem_set hf with q | q
        · exact h.all f q
        · rw [q]; exact hx
      · exact h.all f hf
    · split at hf
      · exact h.all f hf
      · simp only [List.mem_append, List.mem_singleton] at hf
        rcases hf with (q | q) | q
        · exact h.all f (List.mem_of_mem_take q)
        · rw [q]; exact hx
        · exact h.all f (List.mem_of_mem_drop q)
/-- All that the law asks. -/
structure LAll (L A B C : List LsM) (now : Int) : Prop where
  a : takeX L pathQ9 4 now = (A, true)
  no : takeX A pathQ9 5 (now + 4) = (A, false)
  b : takeX A pathQ9 5 (now + 5) = (B, true)
  c : renewX A 4 (now + 5) = C
  young : takeX C pathQ9 5 (now + 5) = (C, false)
  d : dropX9 A pathQ9 = L
  la : leasesOk A = true
  lb : leasesOk B = true
  ha : holderX A pathQ9 = 4
  hb : holderX B pathQ9 = 5
  hl : holderX L pathQ9 = 0
  hold : ∀ k (hk : k < L.length), holderX A L[k].path = L[k].who
  lenA : A.length ≤ 7
  lenB : B.length ≤ 7
  lenC : C.length ≤ 7
  szA : ∀ f ∈ A, f.path.size ≤ 12
  szB : ∀ f ∈ B, f.path.size ≤ 12
  szC : ∀ f ∈ C, f.path.size ≤ 12
theorem leases_all {L : List LsM} (h : LGood L 6) {now : Int} (h0 : 30 ≤ now) (h1 : now ≤ 49) : ∃ A B C, LAll L A B C now := by
  have hs := upl_of_ok h.ok
  have hf := h.few
  have one : ∀ (who t : Int), 1 ≤ who → who ≤ 9 → 0 ≤ t → t ≤ 1000000000 → lsOne ⟨pathQ9, who, t⟩ = true := fun who t a b c d => (one_iff _).2 ⟨named_q9, ⟨a, b⟩, c, d⟩
  have hk := take_mk h.ok (one 4 now (by omega) (by omega) (by omega) (by omega))
  have hno : ∀ f ∈ L, (f.path.toList == pathQ9.toList) = false := fun f hf => noL_q9 (h.all f hf).1
  have hh : hereL L pathQ9 = false := by
    unfold hereL
    rw [lsIdx_none fun j hj => hno _ (List.getElem_mem hj)]
    simp
  obtain ⟨A, hA⟩ : ∃ A, A = L.take (posL L pathQ9) ++ [(⟨pathQ9, 4, now⟩ : LsM)] ++ L.drop (posL L pathQ9) := ⟨_, rfl⟩
  have ea : takeX L pathQ9 4 now = (A, true) := by
    rw [take_is _ _ _ hk, if_neg (by rw [hh]; simp), if_neg (by omega), hA]
  have la : leasesOk A = true := by have := take_keeps hk; rw [ea] at this; exact this
  have hu : (⟨pathQ9, 4, now⟩ : LsM) ∈ A := by rw [hA]; simp
  have hLA : ∀ f ∈ L, f ∈ A := fun f hf => by
    rw [hA]
    rw [← List.take_append_drop (posL L pathQ9) L] at hf
    simp only [List.mem_append, List.mem_singleton] at hf ⊢
    rcases hf with q | q
    · exact .inl (.inl q)
    · exact .inr q
  have hAL : ∀ f ∈ A, f = ⟨pathQ9, 4, now⟩ ∨ f ∈ L := fun f hf => by
    rw [hA] at hf
    simp only [List.mem_append, List.mem_singleton] at hf
    rcases hf with (q | q) | q
    · exact .inr (List.mem_of_mem_take q)
    · exact .inl q
    · exact .inr (List.mem_of_mem_drop q)
  have lenA : A.length ≤ 7 := by
    have := (pos_low hs pathQ9).2.2
    rw [hA]
    simp only [List.length_append, List.length_take, List.length_drop, List.length_cons, List.length_nil]
    omega
  have szA : ∀ f ∈ A, f.path.size ≤ 12 := fun f hf => by
    rcases hAL f hf with e | e
    · rw [e]; show pathQ9.size ≤ 12; decide
    · exact (h.all f e).2.1
  have e1 := take_other (u := ⟨pathQ9, 4, now⟩) (who := 5) (now := now + 4) la hu (by show (4 : Int) ≠ 5; decide) (one 5 (now + 4) (by omega) (by omega) (by omega) (by omega))
  have e2 := take_other (u := ⟨pathQ9, 4, now⟩) (who := 5) (now := now + 5) la hu (by show (4 : Int) ≠ 5; decide) (one 5 (now + 5) (by omega) (by omega) (by omega) (by omega))
  dsimp only at e1 e2
  rw [if_pos (by omega)] at e1
  rw [if_neg (by omega)] at e2
  obtain ⟨B, hB⟩ : ∃ B, B = A.set (lsIdx A pathQ9) (⟨pathQ9, 5, now + 5⟩ : LsM) := ⟨_, rfl⟩
  rw [← hB] at e2
  have lb : leasesOk B = true := by
    have := take_keeps (take_mk la (one 5 (now + 5) (by omega) (by omega) (by omega) (by omega)))
    rw [e2] at this
    exact this
  have hix := (idx_of_mem (upl_of_ok la) hu).1
  have hub : (⟨pathQ9, 5, now + 5⟩ : LsM) ∈ B := by
    rw [hB]
    exact List.mem_set hix _
  have szB : ∀ f ∈ B, f.path.size ≤ 12 := fun f hf => by
    rw [hB] at hf
    rcases List.mem_or_eq_of_mem_set hf with q | q
    · exact szA f q
    · rw [q]; show pathQ9.size ≤ 12; decide
  obtain ⟨C, hC⟩ : ∃ C, C = renewX A 4 (now + 5) := ⟨_, rfl⟩
  have pC : A.map (·.path) = C.map (·.path) := by
    rw [hC]
    unfold renewX
    rw [List.map_map]
    refine List.map_congr_left fun f _ => ?_
    show f.path = (if f.who = 4 then (⟨f.path, f.who, now + 5⟩ : LsM) else f).path
    split <;> rfl
  have huc : (⟨pathQ9, 4, now + 5⟩ : LsM) ∈ C := by
    rw [hC]
    exact List.mem_map.2 ⟨_, hu, rfl⟩
  have lenC : C.length ≤ 7 := by rw [hC, renewX_len]; exact lenA
  have lc : leasesOk C = true := by
    refine ok_of_upl (upl_paths pC (upl_of_ok la)) (fun f hf => ?_) (by omega)
    rw [hC] at hf
    obtain ⟨g, hg, rfl⟩ := List.mem_map.1 hf
    have hg1 := (one_iff g).1 (ones_of_ok la g hg)
    split
    · exact (one_iff _).2 ⟨hg1.1, hg1.2.1, by show 0 ≤ now + 5; omega, by show now + 5 ≤ 1000000000; omega⟩
    · exact (one_iff _).2 hg1
  have szC : ∀ f ∈ C, f.path.size ≤ 12 := fun f hf => by
    rw [hC] at hf
    obtain ⟨g, hg, rfl⟩ := List.mem_map.1 hf
    have := szA g hg
    split <;> exact this
  have e3 := take_other (u := ⟨pathQ9, 4, now + 5⟩) (who := 5) (now := now + 5) lc huc (by show (4 : Int) ≠ 5; decide) (one 5 (now + 5) (by omega) (by omega) (by omega) (by omega))
  dsimp only at e3
  rw [if_pos (by omega)] at e3
  have ed : dropX9 A pathQ9 = L := by
    have f1 : (L.take (posL L pathQ9)).filter (fun f => !(f.path.toList == pathQ9.toList)) = L.take (posL L pathQ9) := List.filter_eq_self.2 fun f hf => by rw [hno f (List.mem_of_mem_take hf)]; rfl
    have f2 : [(⟨pathQ9, 4, now⟩ : LsM)].filter (fun f => !(f.path.toList == pathQ9.toList)) = [] := by simp
    have f3 : (L.drop (posL L pathQ9)).filter (fun f => !(f.path.toList == pathQ9.toList)) = L.drop (posL L pathQ9) := List.filter_eq_self.2 fun f hf => by rw [hno f (List.mem_of_mem_drop hf)]; rfl
    unfold dropX9
    rw [hA, List.filter_append, List.filter_append, f1, f2, f3, List.append_nil, List.take_append_drop]
  exact ⟨A, B, C, ea, e1, e2, hC.symm, e3, ed, la, lb, holder_mem (upl_of_ok la) hu, holder_mem (upl_of_ok lb) hub, holder_no hno, fun k hk => holder_mem (upl_of_ok la) (hLA _ (List.getElem_mem hk)), lenA, by rw [hB, List.length_set]; exact lenA, lenC, szA, szB, szC⟩
/-- Which are old, by the difference alone. -/
theorem old_is {L : List LsM} {m : Nat} (h : LGood L m) {now : Int} (h0 : 30 ≤ now) (h1 : now ≤ 49) {f : LsM} (hf : f ∈ L) : isOld f now = decide (12 ≤ now - f.seen) := by
  have hs := (h.all f hf).2.2.2
  unfold isOld
  rw [show inI f.seen 0 1000000000 = true from inI_iff.2 ⟨hs.1, by omega⟩, show inI now 0 1000000000 = true from inI_iff.2 ⟨by omega, by omega⟩]
  rfl
end Go.Proofs.Ytcnjjbgilpgceaa
/- Draw: The draws of the models: a cursor over the bytes of a code. What is drawn lies within its bounds; nothing but the cursor's own block is turned. -/
namespace Go.Proofs.Ytcnjjbgilpgceaa
set_option maxRecDepth 100000
open Go.RowKit
attribute [local go_sem ↓] Go.wp_at_zero Go.wp_at_succ

/-- The code that is drawn from: a slice of bytes that came in, below block B. -/
def CodeAt (w : World) (B : Nat) (a : Option Addr) (len : Nat) : Prop :=
  len ≤ 1048576 ∧ (0 < len → ∃ b off, a = some ⟨b, off, none⟩ ∧ b < B ∧ ∀ j, j < len → ∃ x : Int, w.cell? ⟨b, off + j, none⟩ = some (.int .u8 x) ∧ 0 ≤ x ∧ x ≤ 255)
/-- The cursor in block g. -/
def Cur (w : World) (g B : Nat) (a : Option Addr) (len cap : Nat) : Prop :=
  B ≤ g ∧ g < w.heap.size ∧ CodeAt w B a len ∧ w.cell? ⟨g, 0, none⟩ = some (.slice a len cap) ∧
  (∃ i : Nat, w.cell? ⟨g, 1, none⟩ = some (.int .i64 i) ∧ i ≤ len) ∧ (∃ h : Int, w.cell? ⟨g, 2, none⟩ = some (.int .i64 h)) ∧
  (∀ j, j < 3 → w.frozen? ⟨g, j, none⟩ = false)
def BytePost (w : World) (g B : Nat) (a : Option Addr) (len cap : Nat) (e : Ending) (w' : World) : Prop :=
  ∃ x : Int, e = .returned (.int .i64 x) ∧ 0 ≤ x ∧ x ≤ 255 ∧ Cur w' g B a len cap ∧ w.grownBy w' (some g)

theorem and255 (n : Int) : 0 ≤ bits .and .i64 n 255 ∧ bits .and .i64 n 255 ≤ 255 := by
  have h255 : (BitVec.ofInt 64 255).toNat = 2 ^ 8 - 1 := by decide
  have key : (BitVec.ofInt 64 n &&& BitVec.ofInt 64 255).toNat = (n % ((2 ^ 64 : Nat) : Int)).toNat % 2 ^ 8 := by
    rw [BitVec.toNat_and, BitVec.toNat_ofInt, h255, Nat.and_two_pow_sub_one_eq_mod]
  have e : bits .and .i64 n 255 = n % 256 := by
    show IntKind.i64.wrap ((BitVec.ofInt 64 n &&& BitVec.ofInt 64 255).toNat : Nat) = n % 256
    rw [key, IntKind.wrap_i64]
    omega
  rw [e]; omega
theorem gb_set (w : World) (g i : Nat) (v : Value) : w.grownBy (w.setCell ⟨g, i, none⟩ v) (some g) :=
  ⟨rfl, rfl, rfl, by simp [World.setCell], fun k _ hk => Below.heap_setCell _ _ _ _ (fun e => hk (by rw [e]))⟩
theorem gb_drewN (w : World) (q : Nat) (row : Option Nat) : w.grownBy (w.drewN q) row := ⟨rfl, rfl, rfl, Nat.le_refl _, fun _ _ _ => rfl⟩
theorem gb_two {a b c : World} {row : Option Nat} (h : a.grownBy b row) (k : b.grownBy c row) : a.grownBy c row :=
  ⟨k.os.trans h.os, k.tape.trans h.tape, k.output.trans h.output, Nat.le_trans h.size k.size, fun i hi hn => (k.block i (Nat.lt_of_lt_of_le hi h.size) hn).trans (h.block i hi hn)⟩
theorem gb_below {w w' : World} {row : Option Nat} (h : Below w.heap.size w w') : w.grownBy w' row := ⟨h.os, h.tape, h.output, h.size, fun k hk _ => h.block k hk⟩
theorem below_gb {w w' : World} {g B : Nat} (h : w.grownBy w' (some g)) (hB : B ≤ g) (hs : B ≤ w.heap.size) : Below B w w' :=
  ⟨h.os, h.tape, h.output, h.size, fun k hk => h.block k (by omega) (by simp; omega)⟩
theorem CodeAt.gb {w w' : World} {B g len : Nat} {a : Option Addr} (h : CodeAt w B a len) (hg : w.grownBy w' (some g)) (hB : B ≤ g) : CodeAt w' B a len := by
  refine ⟨h.1, fun hl => ?_⟩
  obtain ⟨b, off, rfl, hb, hx⟩ := h.2 hl
  refine ⟨b, off, rfl, hb, fun j hj => ?_⟩
  obtain ⟨x, hc, h0, h1⟩ := hx j hj
  exact ⟨x, hg.cell hc (by simp; omega), h0, h1⟩
theorem CodeAt.below {w w' : World} {B C len : Nat} {a : Option Addr} (h : CodeAt w B a len) (hb : Below C w w') (hC : B ≤ C) : CodeAt w' B a len := by
  refine ⟨h.1, fun hl => ?_⟩
  obtain ⟨b, off, rfl, hlt, hx⟩ := h.2 hl
  refine ⟨b, off, rfl, hlt, fun j hj => ?_⟩
  obtain ⟨x, hc, h0, h1⟩ := hx j hj
  exact ⟨x, (hb.cell (p := ⟨b, off + j, none⟩) (Nat.lt_of_lt_of_le hlt hC)).trans hc, h0, h1⟩
/-- New blocks, and what turns none of the cursor's: the cursor stands. -/
theorem Cur.below {w w' : World} {g B len cap : Nat} {a : Option Addr} (h : Cur w g B a len cap) (hb : Below w.heap.size w w') : Cur w' g B a len cap := by
  obtain ⟨hB, hg, hcode, c0, ⟨i, c1, hi⟩, ⟨k, c2⟩, hf⟩ := h
  exact ⟨hB, Nat.lt_of_lt_of_le hg hb.size, hcode.below hb (by omega), (hb.cell (p := ⟨g, 0, none⟩) hg).trans c0, ⟨i, (hb.cell (p := ⟨g, 1, none⟩) hg).trans c1, hi⟩, ⟨k, (hb.cell (p := ⟨g, 2, none⟩) hg).trans c2⟩,
    fun j hj => (hb.frozen (p := ⟨g, j, none⟩) hg).trans (hf j hj)⟩
theorem Cur.seth {w : World} {g B len cap : Nat} {a : Option Addr} (h : Cur w g B a len cap) (k : Int) : Cur (w.setCell ⟨g, 2, none⟩ (.int .i64 k)) g B a len cap := by
  obtain ⟨hB, hg, hcode, c0, ⟨i, c1, hi⟩, ⟨k', c2⟩, hf⟩ := h
  exact ⟨hB, by simpa [World.setCell] using hg, hcode.gb (gb_set _ _ _ _) hB, (World.cell?_setCell_other _ _ _ _ (by simp)).trans c0, ⟨i, (World.cell?_setCell_other _ _ _ _ (by simp)).trans c1, hi⟩, ⟨k, World.cell?_setCell_same _ _ _ c2⟩,
    fun j hj => (World.frozen?_setCell _ _ _ _).trans (hf j hj)⟩
theorem Cur.seti {w : World} {g B len cap : Nat} {a : Option Addr} (h : Cur w g B a len cap) (i : Nat) (hi : i ≤ len) : Cur (w.setCell ⟨g, 1, none⟩ (.int .i64 i)) g B a len cap := by
  obtain ⟨hB, hg, hcode, c0, ⟨i', c1, _⟩, ⟨k, c2⟩, hf⟩ := h
  exact ⟨hB, by simpa [World.setCell] using hg, hcode.gb (gb_set _ _ _ _) hB, (World.cell?_setCell_other _ _ _ _ (by simp)).trans c0, ⟨i, World.cell?_setCell_same _ _ _ c1, hi⟩, ⟨k, (World.cell?_setCell_other _ _ _ _ (by simp)).trans c2⟩,
    fun j hj => (World.frozen?_setCell _ _ _ _).trans (hf j hj)⟩
theorem drewN_bel (B : Nat) (w : World) (q : Nat) : Below B w (w.drewN q) := ⟨rfl, rfl, rfl, Nat.le_refl _, fun _ _ => rfl⟩
theorem byte_more {w : World} {g B len cap i : Nat} {a : Option Addr} (h : Cur w g B a len cap) (hi : i < len) (k : Int) (q : Nat) (y : Int) (hy : y = ((i + 1 : Nat) : Int)) (x : Int) (h0 : 0 ≤ x) (h1 : x ≤ 255) :
    BytePost w g B a len cap (.returned (.int .i64 x)) (((w.setCell ⟨g, 2, none⟩ (.int .i64 k)).drewN q).setCell ⟨g, 1, none⟩ (.int .i64 y)) := by
  subst hy
  exact ⟨x, rfl, h0, h1, (((h.seth k).below (drewN_bel _ _ _)).seti (i + 1) (by omega)), gb_two (gb_two (gb_set _ _ _ _) (gb_drewN _ _ _)) (gb_set _ _ _ _)⟩
theorem byte_over2 {w : World} {g B len cap : Nat} {a : Option Addr} (h : Cur w g B a len cap) (k : Int) (q q' : Nat) (x : Int) (h0 : 0 ≤ x) (h1 : x ≤ 255) :
    BytePost w g B a len cap (.returned (.int .i64 x)) (((w.setCell ⟨g, 2, none⟩ (.int .i64 k)).drewN q).drewN q') :=
  ⟨x, rfl, h0, h1, (((h.seth k).below (drewN_bel _ _ _)).below (drewN_bel _ _ _)), gb_two (gb_two (gb_set _ _ _ _) (gb_drewN _ _ _)) (gb_drewN _ _ _)⟩

set_option maxHeartbeats 1000000 in
theorem l01Byte_any (w : World) (g B : Nat) (a : Option Addr) (len cap : Nat) (hc : Cur w g B a len cap) :
    Calls Try.prog 36 #[.pointer (some ⟨g, 0, none⟩)] w fun e w' => BytePost w g B a len cap e w' := by
  have HC : Hid (Cur w g B a len cap) := hc
  obtain ⟨hB, hg, hcode, c0, ⟨i, c1, hi⟩, ⟨h, c2⟩, hf⟩ := hc
  have f1 := hf 1 (by omega)
  have f2 := hf 2 (by omega)
  have hl := hcode.1
  by_cases hlt : i < len
  · obtain ⟨b, off, rfl, hb, hcx⟩ := hcode.2 (by omega)
    obtain ⟨x, c3, x0, x1⟩ := hcx i hlt
    have i0 : (0 : Int) ≤ (i : Int) := by omega
    have i1 : (i : Int) < (len : Int) := by omega
    have hne : b ≠ g := by omega
    clear hcode hf hcx
    go_enter Try.func36, Try.ntmps36
    go_wp2_with fail
    go_quiet (fail)
    go_wp2_with fail
    go_quiet (fail)
    go_wp2_with fail
    go_quiet (fail)
    go_wp2_with fail
    go_ret
    exact byte_more HC.out hlt _ _ _ (by first | omega | (simp only [wrap64]; omega)) _ (and255 _).1 (and255 _).2
  · have i1 : decide ((i : Int) < (len : Int)) = false := by simp; omega
    clear hcode hf
    go_enter Try.func36, Try.ntmps36
    go_wp2_with fail
    go_quiet (fail)
    go_wp2_with fail
    go_quiet (fail)
    go_wp2_with fail
    go_ret
    exact byte_over2 HC.out _ _ _ _ (and255 _).1 (and255 _).2

def BelowPost (w : World) (g B : Nat) (a : Option Addr) (len cap : Nat) (n : Int) (e : Ending) (w' : World) : Prop :=
  ∃ x : Int, e = .returned (.int .i64 x) ∧ 0 ≤ x ∧ (x < n ∨ x = 0) ∧ Cur w' g B a len cap ∧ w.grownBy w' (some g)
set_option maxHeartbeats 1000000 in
theorem l01Below_any (w : World) (g B : Nat) (a : Option Addr) (len cap : Nat) (n : Int) (hn : n ≤ 9223372036854775807) (hc : Cur w g B a len cap) :
    Calls Try.prog 37 #[.pointer (some ⟨g, 0, none⟩), .int .i64 n] w fun e w' => BelowPost w g B a len cap n e w' := by
  have HC : Hid (Cur w g B a len cap) := hc
  clear hc
  by_cases h0 : n ≤ 0
  · go_enter Try.func37, Try.ntmps37
    go_wp2_with fail
    go_ret
    exact ⟨0, rfl, by omega, .inr rfl, HC.out, gb_drewN w 0 _⟩
  · by_cases h1 : n ≤ 256
    · have hnz : (n == 0) = false := by rw [beq_eq_false_iff_ne]; omega
      go_enter Try.func37, Try.ntmps37
      go_wp2_with fail
      refine (l01Byte_any _ g B a len cap HC.out).mono ?_
      rintro e w1 ⟨x, rfl, x0, x1, hc1, hg1⟩
      have HC1 : Hid (Cur w1 g B a len cap) := hc1
      have HG : Hid _ := hg1
      clear hc1 hg1
      go_wp2_with fail
      go_ret
      exact ⟨x % n, rfl, Int.emod_nonneg _ (by omega), .inl (Int.emod_lt_of_pos _ (by omega)), HC1.out, HG.out⟩
    · go_enter Try.func37, Try.ntmps37
      go_wp2_with fail
      refine (l01Byte_any _ g B a len cap HC.out).mono ?_
      rintro e w1 ⟨x, rfl, x0, x1, hc1, hg1⟩
      have HC1 : Hid (Cur w1 g B a len cap) := hc1
      have HG1 : Hid (w.grownBy w1 (some g)) := hg1
      clear hc1 hg1
      go_wp2_with fail
      refine (l01Byte_any _ g B a len cap HC1.out).mono ?_
      rintro e w2 ⟨y, rfl, y0, y1, hc2, hg2⟩
      have HC2 : Hid (Cur w2 g B a len cap) := hc2
      have HG2 : Hid (w.grownBy w2 (some g)) := gb_two HG1.out hg2
      clear hc2 hg2
      go_wp2_with fail
      refine (l01Byte_any _ g B a len cap HC2.out).mono ?_
      rintro e w3 ⟨z, rfl, z0, z1, hc3, hg3⟩
      have HC3 : Hid (Cur w3 g B a len cap) := hc3
      have HG3 : Hid (w.grownBy w3 (some g)) := gb_two HG2.out hg3
      clear hc3 hg3
      go_wp2_with fail
      refine (l01Byte_any _ g B a len cap HC3.out).mono ?_
      rintro e w4 ⟨u, rfl, u0, u1, hc4, hg4⟩
      have HC4 : Hid (Cur w4 g B a len cap) := hc4
      have HG4 : Hid (w.grownBy w4 (some g)) := gb_two HG3.out hg4
      clear hc4 hg4
      go_wp2_with fail
      go_ret
      exact ⟨(x * 16777216 + y * 65536 + z * 256 + u) % n, rfl, Int.emod_nonneg _ (by omega), .inl (Int.emod_lt_of_pos _ (by omega)), HC4.out, HG4.out⟩
end Go.Proofs.Ytcnjjbgilpgceaa
/- DrawB: The draws of the models, on: a new cursor, a text that is drawn, a long one, a choice. -/
namespace Go.Proofs.Ytcnjjbgilpgceaa
set_option maxRecDepth 100000
open Go.RowKit

def NewPost (w : World) (a : Option Addr) (len cap : Nat) (e : Ending) (w' : World) : Prop :=
  ∃ g, e = .returned (.pointer (some ⟨g, 0, none⟩)) ∧ w.heap.size ≤ g ∧ Cur w' g w.heap.size a len cap ∧ Below w.heap.size w w'
theorem new_post {w : World} {a : Option Addr} {len cap : Nat} (hc : CodeAt w w.heap.size a len) (h : Int) :
    NewPost w a len cap (.returned (.pointer (some ⟨w.heap.size, 0, none⟩))) (w.alloc (.cells #[.slice a len cap, .int .i64 0, .int .i64 h] 74)) := by
  have hb : Below w.heap.size w (w.alloc (.cells #[.slice a len cap, .int .i64 0, .int .i64 h] 74)) := (Below.refl _ _).alloc (Nat.le_refl _) _
  refine ⟨_, rfl, Nat.le_refl _, ⟨Nat.le_refl _, by simp, hc.below hb (Nat.le_refl _), ?_, ⟨0, ?_, Nat.zero_le _⟩, ⟨h, ?_⟩, fun j hj => ?_⟩, hb⟩
  · rw [World.cell?_alloc_mark]; rfl
  · rw [World.cell?_alloc_mark]; rfl
  · rw [World.cell?_alloc_mark]; rfl
  · rw [World.frozen?_alloc_mark]; simp

set_option maxRecDepth 100000 in
set_option maxHeartbeats 1000000 in
theorem l01New_any (w : World) (a : Option Addr) (len cap : Nat) (hc : CodeAt w w.heap.size a len) :
    Calls Try.prog 35 #[.slice a len cap] w fun e w' => NewPost w a len cap e w' := by
  have hl := hc.1
  go_enter Try.func35, Try.ntmps35
  go_wp2_with fail
  go_loop [3, 4] (fun h i => ∃ (k : Nat) (hh : Int), h = .int .i64 hh ∧ i = .int .i64 k ∧ k ≤ len) (fun _ i => len - (intOf i).toNat)
  case atStart => exact ⟨0, _, rfl, rfl, Nat.zero_le _⟩
  case round =>
    obtain ⟨k, hh, rfl, rfl, hk⟩ := hrel
    by_cases hlt : k < len
    · by_cases h4 : k < 4000
      · obtain ⟨b, off, rfl, hb, hx⟩ := hc.2 (by omega)
        obtain ⟨x, cx, x0, x1⟩ := hx k hlt
        have k0 : (0 : Int) ≤ (k : Int) := by omega
        have k1 : (k : Int) < (len : Int) := by omega
        clear hx
        go_wp2_with fail
        go_round
        case rel => exact ⟨k + 1, _, rfl, by go_num, by omega⟩
        case measure => simp [intOf]; omega
      · have h4' : ¬ (k : Int) < 4000 := by omega
        go_wp2_with fail
        go_ret
        exact new_post hc _
    · go_wp2_with fail
      go_ret
      exact new_post hc _

def OncePost (w : World) (g B : Nat) (a : Option Addr) (len cap : Nat) (e : Ending) (w' : World) : Prop :=
  ∃ b : Bool, e = .returned (.bool b) ∧ Cur w' g B a len cap ∧ w.grownBy w' (some g)
def TextPost (w : World) (g B : Nat) (a : Option Addr) (len cap : Nat) (n : Nat) (e : Ending) (w' : World) : Prop :=
  ∃ t : ByteArray, e = .returned (.string t) ∧ t.size ≤ n ∧ Cur w' g B a len cap ∧ w.grownBy w' (some g)
def TextIs (w : World) (g B : Nat) (a : Option Addr) (len cap : Nat) (n : Nat) (e : Ending) (w' : World) : Prop :=
  ∃ t : ByteArray, e = .returned (.string t) ∧ t.size = n ∧ Cur w' g B a len cap ∧ w.grownBy w' (some g)
theorem text_step {w wr w2 w3 : World} {g B len cap : Nat} {a : Option Addr} {v v' : Value} {l : List UInt8} {x : Int} {o : Obj} (x0 : 0 ≤ x) (x1 : x ≤ 255) (hs : w.heap.size ≤ wr.heap.size) (hgw : g < w.heap.size)
    (hg : w.grownBy wr (some g)) (hg2 : wr.grownBy w2 (some g)) (hc2 : Cur w2 g B a len cap) (hown : w2.ownsRow w.heap.size 5 1 v l.length (bv l))
    (hown' : w3.ownsRow w.heap.size 5 1 v' (l.length + 1) (bv l ++ [.int .u8 x])) (hgr : (w2.alloc o).grownBy w3 v.ownBlock) :
    Cur w3 g B a len cap ∧ w.grownBy w3 (some g) ∧ w3.ownsRow w.heap.size 5 1 v' (l ++ [UInt8.ofNat x.toNat]).length (bv (l ++ [UInt8.ofNat x.toNat])) := by
  have hlt := hown.lt
  have h2s : wr.heap.size ≤ w2.heap.size := hg2.size
  have hb3 : Below w.heap.size w2 w3 := ((Below.refl _ _).alloc (by omega) o).grown hgr (by simp; omega) (fun j hj => (hlt j hj).1)
  refine ⟨?_, ⟨(hb3.os.trans hg2.os).trans hg.os, (hb3.tape.trans hg2.tape).trans hg.tape, (hb3.output.trans hg2.output).trans hg.output, by have := hb3.size; omega, fun k hk hn => (hb3.block k hk).trans ((hg2.block k (by omega) hn).trans (hg.block k hk hn))⟩, ?_⟩
  · obtain ⟨hB, hgs, hcode, c0, ⟨i, c1, hi⟩, ⟨k, c2⟩, hf⟩ := hc2
    refine ⟨hB, by have := hb3.size; omega, hcode.below hb3 (by omega), (hb3.cell (p := ⟨g, 0, none⟩) hgw).trans c0, ⟨i, (hb3.cell (p := ⟨g, 1, none⟩) hgw).trans c1, hi⟩, ⟨k, (hb3.cell (p := ⟨g, 2, none⟩) hgw).trans c2⟩, fun j hj => (hb3.frozen (p := ⟨g, j, none⟩) hgw).trans (hf j hj)⟩
  · rw [byte_of x x0 (by omega), bv_snoc] at hown'
    simpa using hown'
theorem own_gb {w w' : World} {g C : Nat} {v : Value} {l : List UInt8} (h : w.ownsRow C 5 1 v l.length (bv l)) (hg : w.grownBy w' (some g)) (hC : g < C) : w'.ownsRow C 5 1 v l.length (bv l) :=
  h.kept hg (by
    cases hv : v.ownBlock with
    | none => exact .inl rfl
    | some j => right; have := (h.lt j hv).1; simp; omega)

end Go.Proofs.Ytcnjjbgilpgceaa
/- MemA: What lies in memory through a law: boxes, and rows of their own. -/
namespace Go.Proofs.Ytcnjjbgilpgceaa
set_option maxRecDepth 100000
open Go.RowKit

theorem wc_grown {w w' : World} {g : Nat} {row : Option Nat} {L : List Value} (h : WCells w g L) (hg : w.grownBy w' row) (hr : row ≠ some g) : WCells w' g L := by
  have hblk := hg.block g h.1 (fun e => hr e.symm)
  refine ⟨Nat.lt_of_lt_of_le h.1 hg.size, fun i v hv => ⟨?_, ?_⟩⟩
  · rw [World.cell?_of_block (w := w) hblk]; exact (h.2 i v hv).1
  · rw [World.frozen?_of_block (w := w) hblk]; exact (h.2 i v hv).2
/-- A row of its own between two places, or none. -/
def FRw (w : World) (va : Option Addr) (X : List Value) (lo hi : Nat) : Prop := (va = none ∧ X = []) ∨ ∃ g, va = some ⟨g, 0, none⟩ ∧ lo ≤ g ∧ g < hi ∧ WCells w g X
theorem FRw.crow {w : World} {va : Option Addr} {X : List Value} {lo hi : Nat} (h : FRw w va X lo hi) : CRow w va X := by
  rcases h with ⟨_, rfl⟩ | ⟨g, rfl, _, _, h⟩
  · intro hp; simp at hp
  · exact h.crow
theorem FRw.below {w w' : World} {va : Option Addr} {X : List Value} {lo hi : Nat} (h : FRw w va X lo hi) (hb : Below w.heap.size w w') : FRw w' va X lo hi := by
  rcases h with h | ⟨g, h1, h2, h3, h⟩
  · exact .inl h
  · exact .inr ⟨g, h1, h2, h3, h.grow hb⟩
theorem FRw.grown {w w' : World} {va : Option Addr} {X : List Value} {lo hi : Nat} {row : Option Nat} (h : FRw w va X lo hi) (hg : w.grownBy w' row) (hr : ∀ g, row = some g → g < lo ∨ hi ≤ g) : FRw w' va X lo hi := by
  rcases h with h | ⟨g, h1, h2, h3, h⟩
  · exact .inl h
  · exact .inr ⟨g, h1, h2, h3, wc_grown h hg (fun e => by rcases hr g e with h | h <;> omega)⟩
theorem FRw.of_wcells {w : World} {g lo hi : Nat} {X : List Value} (h : WCells w g X) (h1 : lo ≤ g) (h2 : g < hi) : FRw w (some ⟨g, 0, none⟩) X lo hi := .inr ⟨g, rfl, h1, h2, h⟩
theorem FRw.wcells {w : World} {g lo hi : Nat} {X : List Value} (h : FRw w (some ⟨g, 0, none⟩) X lo hi) : WCells w g X := by
  rcases h with ⟨h, _⟩ | ⟨g', e, _, _, h⟩
  · cases h
  · have : g = g' := by simpa using e
    subst this; exact h
theorem FRw.of_own {w : World} {B n c t sz : Nat} {va : Option Addr} {X : List Value} (h : w.ownsRow B t sz (.slice va n c) n X) : FRw w va X B w.heap.size ∧ n ≤ c := by
  have h' := h
  rcases h.2 with ⟨h0, hX⟩ | ⟨g, cap, cur, he, hB, hcur, hn, _, _, _⟩
  · simp only [Value.slice.injEq] at h0
    obtain ⟨rfl, h1, rfl⟩ := h0
    refine ⟨.inl ⟨rfl, ?_⟩, by omega⟩
    have hl := h'.1
    rw [hX, Nat.zero_mul] at hl
    exact List.eq_nil_of_length_eq_zero hl
  · simp only [Value.slice.injEq] at he
    obtain ⟨rfl, _, rfl⟩ := he
    exact ⟨.inr ⟨g, rfl, hB, (Array.getElem?_eq_some_iff.1 hcur).1, own_wcells h'⟩, hn⟩
/-- Boxes and rows that lie in a world; what was there at the start is as it was. -/
structure Mem (w0 w : World) (L : List (Nat × List Value)) (R : List (Option Addr × List Value × Nat × Nat)) : Prop where
  cells : ∀ p ∈ L, WCells w p.1 p.2
  rows : ∀ r ∈ R, FRw w r.1 r.2.1 r.2.2.1 r.2.2.2
  low : Below w0.heap.size w0 w
theorem Mem.below {w0 w w' : World} {L : List (Nat × List Value)} {R : List (Option Addr × List Value × Nat × Nat)} (M : Mem w0 w L R) (hb : Below w.heap.size w w') : Mem w0 w' L R :=
  ⟨fun p hp => (M.cells p hp).grow hb, fun r hr => (M.rows r hr).below hb, M.low.trans (hb.mono M.low.size)⟩
theorem Mem.alloc {w0 w : World} {L : List (Nat × List Value)} {R : List (Option Addr × List Value × Nat × Nat)} (M : Mem w0 w L R) (o : Obj) : Mem w0 (w.alloc o) L R := M.below ((Below.refl _ _).alloc (Nat.le_refl _) o)
theorem Mem.drew {w0 w : World} {L : List (Nat × List Value)} {R : List (Option Addr × List Value × Nat × Nat)} (M : Mem w0 w L R) : Mem w0 w.drew L R := ⟨fun p hp => M.cells p hp, fun r hr => M.rows r hr, M.low.drew⟩
theorem Mem.box {w0 w : World} {L : List (Nat × List Value)} {R : List (Option Addr × List Value × Nat × Nat)} (M : Mem w0 w L R) (cs : Array Value) (t : TypeId) : Mem w0 (w.alloc (.cells cs t)) ((w.heap.size, cs.toList) :: L) R := by
  refine ⟨fun p hp => ?_, (M.alloc _).rows, (M.alloc _).low⟩
  rcases List.mem_cons.1 hp with rfl | h
  · exact wcells_new w cs t
  · exact (M.alloc _).cells p h
theorem Mem.row {w0 w : World} {L : List (Nat × List Value)} {R : List (Option Addr × List Value × Nat × Nat)} (M : Mem w0 w L R) {va : Option Addr} {X : List Value} {lo hi : Nat} (h : FRw w va X lo hi) : Mem w0 w L ((va, X, lo, hi) :: R) := by
  refine ⟨M.cells, fun r hr => ?_, M.low⟩
  rcases List.mem_cons.1 hr with rfl | h'
  · exact h
  · exact M.rows r h'
theorem Mem.less {w0 w : World} {L L' : List (Nat × List Value)} {R R' : List (Option Addr × List Value × Nat × Nat)} (M : Mem w0 w L R) (hL : ∀ p ∈ L', p ∈ L) (hR : ∀ r ∈ R', r ∈ R) : Mem w0 w L' R' := ⟨fun p hp => M.cells p (hL p hp), fun r hr => M.rows r (hR r hr), M.low⟩
theorem Mem.grown {w0 w w' : World} {L : List (Nat × List Value)} {R : List (Option Addr × List Value × Nat × Nat)} {row : Option Nat} (M : Mem w0 w L R) (hg : w.grownBy w' row) (hL : ∀ p ∈ L, ∀ g, row = some g → g ≠ p.1) (hR : ∀ r ∈ R, ∀ g, row = some g → g < r.2.2.1 ∨ r.2.2.2 ≤ g) (h0 : ∀ g, row = some g → w0.heap.size ≤ g) : Mem w0 w' L R :=
  ⟨fun p hp => wc_grown (M.cells p hp) hg (fun e => hL p hp _ e rfl), fun r hr => (M.rows r hr).grown hg (hR r hr), M.low.grown hg M.low.size h0⟩
theorem Mem.cell {w0 w : World} {L : List (Nat × List Value)} {R : List (Option Addr × List Value × Nat × Nat)} (M : Mem w0 w L R) {g : Nat} {v : Value} (h : (g, [v]) ∈ L) : w.cell? ⟨g, 0, none⟩ = some v := ((M.cells _ h).2 0 _ rfl).1
theorem Mem.lt {w0 w : World} {L : List (Nat × List Value)} {R : List (Option Addr × List Value × Nat × Nat)} (M : Mem w0 w L R) {g : Nat} {X : List Value} (h : (g, X) ∈ L) : g < w.heap.size := (M.cells _ h).1
theorem Mem.at {w0 w : World} {L : List (Nat × List Value)} {R : List (Option Addr × List Value × Nat × Nat)} (M : Mem w0 w L R) {va : Option Addr} {X : List Value} {lo hi : Nat} (h : (va, X, lo, hi) ∈ R) : FRw w va X lo hi := M.rows _ h

theorem Mem.at0 {w0 w : World} {L : List (Nat × List Value)} {R : List (Option Addr × List Value × Nat × Nat)} {va : Option Addr} {X : List Value} {lo hi : Nat} (M : Mem w0 w L ((va, X, lo, hi) :: R)) : FRw w va X lo hi := M.rows _ (List.mem_cons_self ..)
theorem Mem.cell0 {w0 w : World} {L : List (Nat × List Value)} {R : List (Option Addr × List Value × Nat × Nat)} {g : Nat} {v : Value} (M : Mem w0 w ((g, [v]) :: L) R) : w.cell? ⟨g, 0, none⟩ = some v := M.cell (List.mem_cons_self ..)
theorem Mem.lt0 {w0 w : World} {L : List (Nat × List Value)} {R : List (Option Addr × List Value × Nat × Nat)} {g : Nat} {X : List Value} (M : Mem w0 w ((g, X) :: L) R) : g < w.heap.size := M.lt (List.mem_cons_self ..)
theorem Mem.at1 {w0 w : World} {L : List (Nat × List Value)} {R : List (Option Addr × List Value × Nat × Nat)} {r0 : Option Addr × List Value × Nat × Nat} {va : Option Addr} {X : List Value} {lo hi : Nat} (M : Mem w0 w L (r0 :: (va, X, lo, hi) :: R)) : FRw w va X lo hi := M.rows _ (List.mem_cons_of_mem _ (List.mem_cons_self ..))
theorem Mem.cell1 {w0 w : World} {L : List (Nat × List Value)} {R : List (Option Addr × List Value × Nat × Nat)} {p0 : Nat × List Value} {g : Nat} {v : Value} (M : Mem w0 w (p0 :: (g, [v]) :: L) R) : w.cell? ⟨g, 0, none⟩ = some v := M.cell (List.mem_cons_of_mem _ (List.mem_cons_self ..))
theorem Mem.lt1 {w0 w : World} {L : List (Nat × List Value)} {R : List (Option Addr × List Value × Nat × Nat)} {p0 : Nat × List Value} {g : Nat} {X : List Value} (M : Mem w0 w (p0 :: (g, X) :: L) R) : g < w.heap.size := M.lt (List.mem_cons_of_mem _ (List.mem_cons_self ..))
theorem Mem.at2 {w0 w : World} {L : List (Nat × List Value)} {R : List (Option Addr × List Value × Nat × Nat)} {r0 : Option Addr × List Value × Nat × Nat} {r1 : Option Addr × List Value × Nat × Nat} {va : Option Addr} {X : List Value} {lo hi : Nat} (M : Mem w0 w L (r0 :: r1 :: (va, X, lo, hi) :: R)) : FRw w va X lo hi := M.rows _ (List.mem_cons_of_mem _ (List.mem_cons_of_mem _ (List.mem_cons_self ..)))
theorem Mem.cell2 {w0 w : World} {L : List (Nat × List Value)} {R : List (Option Addr × List Value × Nat × Nat)} {p0 : Nat × List Value} {p1 : Nat × List Value} {g : Nat} {v : Value} (M : Mem w0 w (p0 :: p1 :: (g, [v]) :: L) R) : w.cell? ⟨g, 0, none⟩ = some v := M.cell (List.mem_cons_of_mem _ (List.mem_cons_of_mem _ (List.mem_cons_self ..)))
theorem Mem.lt2 {w0 w : World} {L : List (Nat × List Value)} {R : List (Option Addr × List Value × Nat × Nat)} {p0 : Nat × List Value} {p1 : Nat × List Value} {g : Nat} {X : List Value} (M : Mem w0 w (p0 :: p1 :: (g, X) :: L) R) : g < w.heap.size := M.lt (List.mem_cons_of_mem _ (List.mem_cons_of_mem _ (List.mem_cons_self ..)))
theorem Mem.at3 {w0 w : World} {L : List (Nat × List Value)} {R : List (Option Addr × List Value × Nat × Nat)} {r0 : Option Addr × List Value × Nat × Nat} {r1 : Option Addr × List Value × Nat × Nat} {r2 : Option Addr × List Value × Nat × Nat} {va : Option Addr} {X : List Value} {lo hi : Nat} (M : Mem w0 w L (r0 :: r1 :: r2 :: (va, X, lo, hi) :: R)) : FRw w va X lo hi := M.rows _ (List.mem_cons_of_mem _ (List.mem_cons_of_mem _ (List.mem_cons_of_mem _ (List.mem_cons_self ..))))
theorem Mem.cell3 {w0 w : World} {L : List (Nat × List Value)} {R : List (Option Addr × List Value × Nat × Nat)} {p0 : Nat × List Value} {p1 : Nat × List Value} {p2 : Nat × List Value} {g : Nat} {v : Value} (M : Mem w0 w (p0 :: p1 :: p2 :: (g, [v]) :: L) R) : w.cell? ⟨g, 0, none⟩ = some v := M.cell (List.mem_cons_of_mem _ (List.mem_cons_of_mem _ (List.mem_cons_of_mem _ (List.mem_cons_self ..))))
theorem Mem.lt3 {w0 w : World} {L : List (Nat × List Value)} {R : List (Option Addr × List Value × Nat × Nat)} {p0 : Nat × List Value} {p1 : Nat × List Value} {p2 : Nat × List Value} {g : Nat} {X : List Value} (M : Mem w0 w (p0 :: p1 :: p2 :: (g, X) :: L) R) : g < w.heap.size := M.lt (List.mem_cons_of_mem _ (List.mem_cons_of_mem _ (List.mem_cons_of_mem _ (List.mem_cons_self ..))))
theorem Mem.at4 {w0 w : World} {L : List (Nat × List Value)} {R : List (Option Addr × List Value × Nat × Nat)} {r0 : Option Addr × List Value × Nat × Nat} {r1 : Option Addr × List Value × Nat × Nat} {r2 : Option Addr × List Value × Nat × Nat} {r3 : Option Addr × List Value × Nat × Nat} {va : Option Addr} {X : List Value} {lo hi : Nat} (M : Mem w0 w L (r0 :: r1 :: r2 :: r3 :: (va, X, lo, hi) :: R)) : FRw w va X lo hi := M.rows _ (List.mem_cons_of_mem _ (List.mem_cons_of_mem _ (List.mem_cons_of_mem _ (List.mem_cons_of_mem _ (List.mem_cons_self ..)))))
theorem Mem.cell4 {w0 w : World} {L : List (Nat × List Value)} {R : List (Option Addr × List Value × Nat × Nat)} {p0 : Nat × List Value} {p1 : Nat × List Value} {p2 : Nat × List Value} {p3 : Nat × List Value} {g : Nat} {v : Value} (M : Mem w0 w (p0 :: p1 :: p2 :: p3 :: (g, [v]) :: L) R) : w.cell? ⟨g, 0, none⟩ = some v := M.cell (List.mem_cons_of_mem _ (List.mem_cons_of_mem _ (List.mem_cons_of_mem _ (List.mem_cons_of_mem _ (List.mem_cons_self ..)))))
theorem Mem.lt4 {w0 w : World} {L : List (Nat × List Value)} {R : List (Option Addr × List Value × Nat × Nat)} {p0 : Nat × List Value} {p1 : Nat × List Value} {p2 : Nat × List Value} {p3 : Nat × List Value} {g : Nat} {X : List Value} (M : Mem w0 w (p0 :: p1 :: p2 :: p3 :: (g, X) :: L) R) : g < w.heap.size := M.lt (List.mem_cons_of_mem _ (List.mem_cons_of_mem _ (List.mem_cons_of_mem _ (List.mem_cons_of_mem _ (List.mem_cons_self ..)))))
theorem Mem.at5 {w0 w : World} {L : List (Nat × List Value)} {R : List (Option Addr × List Value × Nat × Nat)} {r0 : Option Addr × List Value × Nat × Nat} {r1 : Option Addr × List Value × Nat × Nat} {r2 : Option Addr × List Value × Nat × Nat} {r3 : Option Addr × List Value × Nat × Nat} {r4 : Option Addr × List Value × Nat × Nat} {va : Option Addr} {X : List Value} {lo hi : Nat} (M : Mem w0 w L (r0 :: r1 :: r2 :: r3 :: r4 :: (va, X, lo, hi) :: R)) : FRw w va X lo hi := M.rows _ (List.mem_cons_of_mem _ (List.mem_cons_of_mem _ (List.mem_cons_of_mem _ (List.mem_cons_of_mem _ (List.mem_cons_of_mem _ (List.mem_cons_self ..))))))
theorem Mem.cell5 {w0 w : World} {L : List (Nat × List Value)} {R : List (Option Addr × List Value × Nat × Nat)} {p0 : Nat × List Value} {p1 : Nat × List Value} {p2 : Nat × List Value} {p3 : Nat × List Value} {p4 : Nat × List Value} {g : Nat} {v : Value} (M : Mem w0 w (p0 :: p1 :: p2 :: p3 :: p4 :: (g, [v]) :: L) R) : w.cell? ⟨g, 0, none⟩ = some v := M.cell (List.mem_cons_of_mem _ (List.mem_cons_of_mem _ (List.mem_cons_of_mem _ (List.mem_cons_of_mem _ (List.mem_cons_of_mem _ (List.mem_cons_self ..))))))
theorem Mem.lt5 {w0 w : World} {L : List (Nat × List Value)} {R : List (Option Addr × List Value × Nat × Nat)} {p0 : Nat × List Value} {p1 : Nat × List Value} {p2 : Nat × List Value} {p3 : Nat × List Value} {p4 : Nat × List Value} {g : Nat} {X : List Value} (M : Mem w0 w (p0 :: p1 :: p2 :: p3 :: p4 :: (g, X) :: L) R) : g < w.heap.size := M.lt (List.mem_cons_of_mem _ (List.mem_cons_of_mem _ (List.mem_cons_of_mem _ (List.mem_cons_of_mem _ (List.mem_cons_of_mem _ (List.mem_cons_self ..))))))
end Go.Proofs.Ytcnjjbgilpgceaa
/- SlG: Stretches of memory: what lies in each, all apart; what is put into one leaves the others as they are. -/
namespace Go.Proofs.Ytcnjjbgilpgceaa
set_option maxRecDepth 100000
open Go.RowKit

/-- Something that lies in the blocks from lo to hi. -/
structure Str where
  p : World → Prop
  lo : Nat
  hi : Nat
def Str.Loc (s : Str) : Prop := ∀ W W' l h, s.p W → Turned W W' l h → (s.hi ≤ l ∨ h ≤ s.lo) → s.p W'
/-- A box. -/
abbrev bxS (b : Nat) (X : List Value) : Str := ⟨fun W => WCells W b X, b, b + 1⟩
/-- A row. -/
abbrev rwS (va : Option Addr) (X : List Value) (lo hi : Nat) : Str := ⟨fun W => FRw W va X lo hi, lo, hi⟩
theorem bxS.loc (b : Nat) (X : List Value) : (bxS b X).Loc := fun _ _ _ _ h t hd => h.turned t (by rcases hd with h | h <;> (dsimp only [bxS] at h; omega))
theorem rwS.loc (va : Option Addr) (X : List Value) (lo hi : Nat) : (rwS va X lo hi).Loc := fun _ _ l h hp t hd => by
  rcases hp with e | ⟨g, h1, h2, h3, h4⟩
  · exact .inl e
  · exact .inr ⟨g, h1, h2, h3, h4.turned t (by rcases hd with e | e <;> (dsimp only [rwS] at e; omega))⟩
structure SL (w0 W : World) (S : List Str) : Prop where
  bel : Below w0.heap.size w0 W
  is : ∀ s ∈ S, s.p W ∧ s.Loc ∧ w0.heap.size ≤ s.lo ∧ s.hi ≤ W.heap.size
  apart : S.Pairwise fun s t => s.hi ≤ t.lo ∨ t.hi ≤ s.lo
section
variable {w0 W W' : World} {S : List Str} {s t : Str}
theorem SL.tail (h : SL w0 W (s :: S)) : SL w0 W S := ⟨h.bel, fun x hx => h.is x (List.mem_cons_of_mem _ hx), (List.pairwise_cons.1 h.apart).2⟩
theorem SL.start (w : World) : SL w w [] := ⟨Below.refl _ _, fun _ h => (by cases h), .nil⟩
theorem SL.below (h : SL w0 W S) (hb : Below W.heap.size W W') : SL w0 W' S :=
  ⟨h.bel.trans (hb.mono h.bel.size), fun s hs => ⟨(h.is s hs).2.1 W W' W'.heap.size W'.heap.size (h.is s hs).1 (Turned.of_below hb _ _) (.inl (Nat.le_trans (h.is s hs).2.2.2 hb.size)), (h.is s hs).2.1, (h.is s hs).2.2.1, Nat.le_trans (h.is s hs).2.2.2 hb.size⟩, h.apart⟩
theorem SL.drew (h : SL w0 W S) : SL w0 W.drew S := h.below (Below.drew (Below.refl _ _))
/-- What a call has made. -/
theorem SL.add (h : SL w0 W S) (hb : Below W.heap.size W W') (hp : s.p W') (hl : s.Loc) (h1 : W.heap.size ≤ s.lo) (h2 : s.hi ≤ W'.heap.size) : SL w0 W' (s :: S) := by
  have k := h.below hb
  refine ⟨k.bel, fun x hx => ?_, List.pairwise_cons.2 ⟨fun x hx => .inr (Nat.le_trans (h.is x hx).2.2.2 h1), h.apart⟩⟩
  rcases List.mem_cons.1 hx with rfl | hx
  · exact ⟨hp, hl, Nat.le_trans h.bel.size h1, h2⟩
  · exact k.is x hx
theorem SL.add2 (h : SL w0 W S) (hb : Below W.heap.size W W') (hp : s.p W') (hl : s.Loc) (h1 : W.heap.size ≤ s.lo) (h2 : s.hi ≤ W'.heap.size) (kp : t.p W') (kl : t.Loc) (k1 : W.heap.size ≤ t.lo) (k2 : t.hi ≤ W'.heap.size) (ha : s.hi ≤ t.lo ∨ t.hi ≤ s.lo) : SL w0 W' (s :: t :: S) := by
  have k := h.add hb kp kl k1 k2
  refine ⟨k.bel, fun x hx => ?_, List.pairwise_cons.2 ⟨fun x hx => ?_, k.apart⟩⟩
  · rcases List.mem_cons.1 hx with rfl | hx
    · exact ⟨hp, hl, Nat.le_trans h.bel.size h1, h2⟩
    · exact k.is x hx
  · rcases List.mem_cons.1 hx with rfl | hx
    · exact ha
    · exact .inr (Nat.le_trans (h.is x hx).2.2.2 h1)
theorem SL.new (h : SL w0 W S) (cs : Array Value) (ty : TypeId) : SL w0 (W.alloc (.cells cs ty)) (bxS W.heap.size cs.toList :: S) :=
  h.add ((Below.refl _ _).alloc (Nat.le_refl _) _) (wcells_new W cs ty) (bxS.loc _ _) (Nat.le_refl _) (by simp)
theorem SL.at (h : SL w0 W S) (i : Nat) (hs : S[i]? = some s) : s.p W := (h.is _ (List.mem_of_getElem? hs)).1
theorem SL.bx (h : SL w0 W S) (i : Nat) {b : Nat} {X : List Value} (hs : S[i]? = some (bxS b X)) (j : Nat) (v : Value) (hv : X[j]? = some v) : W.cell? ⟨b, j, none⟩ = some v ∧ W.frozen? ⟨b, j, none⟩ = false := (show WCells W b X from h.at i hs).2 j v hv
/-- What lies in one stretch is turned. -/
theorem SL.turn (h : SL w0 W S) (i : Nat) (hs : S[i]? = some s) (tu : Turned W W' s.lo s.hi) {q : World → Prop} (hq : q W') (hl : Str.Loc ⟨q, s.lo, s.hi⟩) : SL w0 W' (S.set i ⟨q, s.lo, s.hi⟩) := by
  have hm := h.is s (List.mem_of_getElem? hs)
  obtain ⟨hi, hie⟩ := List.getElem?_eq_some_iff.1 hs
  have hap : ∀ j (hj : j < S.length), j ≠ i → S[j].hi ≤ s.lo ∨ s.hi ≤ S[j].lo := fun j hj hne => by
    have := List.pairwise_iff_getElem.1 h.apart
    rcases Nat.lt_or_gt_of_ne hne with e | e
    · have := this j i hj hi e; rw [hie] at this; exact this
    · have := this i j hi hj e; rw [hie] at this; exact this.symm
  refine ⟨⟨h.bel.os ▸ tu.base.os ▸ rfl, ?_, ?_, ?_, ?_⟩, fun x hx => ?_, ?_⟩
  · exact tu.base.tape.trans h.bel.tape
  · exact tu.base.output.trans h.bel.output
  · exact Nat.le_trans h.bel.size tu.base.size
  · intro k hk
    exact (tu.block k (Nat.lt_of_lt_of_le hk h.bel.size) (by omega)).trans (h.bel.block k hk)
  · obtain ⟨j, hj, rfl⟩ := List.getElem_of_mem hx
    rw [List.length_set] at hj
    by_cases e : j = i
    · subst e
      rw [List.getElem_set_self]
      exact ⟨hq, hl, hm.2.2.1, Nat.le_trans hm.2.2.2 tu.base.size⟩
    · rw [List.getElem_set_ne (Ne.symm e)]
      have k := h.is _ (List.getElem_mem hj)
      exact ⟨k.2.1 W W' _ _ k.1 tu (hap j hj e), k.2.1, k.2.2.1, Nat.le_trans k.2.2.2 tu.base.size⟩
  · rw [List.pairwise_iff_getElem] at *
    intro a b ha hb hab
    rw [List.length_set] at ha hb
    have := List.pairwise_iff_getElem.1 h.apart a b ha hb hab
    rw [List.getElem_set, List.getElem_set]
    split <;> split
    · omega
    · rename_i e1 e2; subst e1; rw [hie] at this; exact this
    · rename_i e1 e2; subst e2; rw [hie] at this; exact this
    · exact this
theorem SL.put (h : SL w0 W S) (i : Nat) {b : Nat} {X : List Value} (hs : S[i]? = some (bxS b X)) (j : Nat) (v : Value) (hj : j < X.length) : SL w0 (W.setCell ⟨b, j, none⟩ v) (S.set i (bxS b (X.set j v))) :=
  h.turn i hs (Turned.of_grown (gb_set' W b j v) (Nat.le_refl _) (Nat.lt_succ_self _)) ((show WCells W b X from h.at i hs).set j v hj) (bxS.loc _ _)
theorem SL.swap (h : SL w0 W (s :: t :: S)) : SL w0 W (t :: s :: S) := by
  refine ⟨h.bel, fun x hx => h.is x (by simp only [List.mem_cons] at hx ⊢; rcases hx with h | h | h <;> simp [h]), ?_⟩
  have h1 := List.pairwise_cons.1 h.apart
  have h2 := List.pairwise_cons.1 h1.2
  exact List.pairwise_cons.2 ⟨fun x hx => by
    rcases List.mem_cons.1 hx with rfl | hx
    · exact (h1.1 t (List.mem_cons_self ..)).symm
    · exact h2.1 x hx, List.pairwise_cons.2 ⟨fun x hx => h1.1 x (List.mem_cons_of_mem _ hx), h2.2⟩⟩
/-- A row of one's own that is made longer, outside all stretches. -/
theorem SL.grown (h : SL w0 W S) {row : Option Nat} (hg : W.grownBy W' row) (hr : ∀ q, row = some q → w0.heap.size ≤ q ∧ ∀ s ∈ S, s.hi ≤ q ∨ q < s.lo) : SL w0 W' S := by
  cases row with
  | none => exact h.below ⟨hg.os, hg.tape, hg.output, hg.size, fun k hk => hg.block k hk (by simp)⟩
  | some q =>
    have t := Turned.of_grown hg (Nat.le_refl q) (Nat.lt_succ_self q)
    refine ⟨h.bel.grown hg h.bel.size fun k e => by cases e; exact (hr q rfl).1, fun s hs => ⟨(h.is s hs).2.1 W W' _ _ (h.is s hs).1 t (by rcases (hr q rfl).2 s hs with e | e <;> omega), (h.is s hs).2.1, (h.is s hs).2.2.1, Nat.le_trans (h.is s hs).2.2.2 hg.size⟩, h.apart⟩
end
end Go.Proofs.Ytcnjjbgilpgceaa
/- GrwB: A region that draws its order, some of whose operations make memory: what answers one value in every later world is taken first, calls that only make memory too. The way of the proof is that of the library's Derived.OrdersHeld, which is imported; the class of worlds is ours. -/
namespace Go.Proofs.Ytcnjjbgilpgceaa
set_option maxRecDepth 100000
open Go.RowKit

/-- A later world: more memory, what was there untouched. -/
def Later (w w' : World) : Prop := Below w.heap.size w w'
theorem Later.refl (w : World) : Later w w := Below.refl _ _
theorem Later.trans {a b c : World} (h : Later a b) (g : Later b c) : Later a c := Below.trans h (Below.mono g (Below.size h))
section
variable {P : Program} {ops : Array Oper} {Q : Exit → Act → World → Prop} {md : Region.Mode}
/-- Whatever order is picked from here on, in whatever later world. -/
def wpL (P : Program) (md : Region.Mode) (ops : Array Oper) (Q : Exit → Act → World → Prop) : Nat → Array Bool → Act → World → Prop
  | 0, l, a, w => Region.ready md ops l = [] ∧ ∀ x, Later w x → Q .normal a x
  | n + 1, l, a, w => ∀ x, Later w x → (Region.ready md ops l = [] → Q .normal a x) ∧
      ∀ i ∈ Region.ready md ops l, wpOp P ops Q i (fun a' y => Later x y ∧ wpL P md ops Q n (l.setIfInBounds i true) a' y) a x
theorem wpL_later : ∀ (n : Nat) (l : Array Bool) (a : Act) (w y : World), Later w y → wpL P md ops Q n l a w → wpL P md ops Q n l a y
  | 0, _, _, _, _, hy, h => ⟨h.1, fun x hx => h.2 x (hy.trans hx)⟩
  | _ + 1, _, _, _, _, hy, h => fun x hx => h x (hy.trans hx)
theorem wpAny_of_L : ∀ (n : Nat) (l : Array Bool) (a : Act) (w : World), wpL P md ops Q n l a w → wpAny P md ops Q n l a w
  | 0, _, _, w, h => ⟨h.1, h.2 w (Later.refl w)⟩
  | n + 1, _, _, w, h => ⟨(h w (Later.refl w)).1, fun i hi => wpOp_mono (fun a' y hh => wpAny_of_L n _ a' y hh.2) ((h w (Later.refl w)).2 i hi)⟩
/-- One value, in every later world; a call may make memory. -/
def YL (P : Program) (ops : Array Oper) (o : Oper) (v : Value) (a : Act) (w : World) : Prop :=
  (Region.wanted o (yielded ops a.tmps) = true ∧ ∀ x, Later w x → o.quietAt P a (Later x) x v) ∨ (Region.wanted o (yielded ops a.tmps) = false ∧ v = undef)
theorem YL.later {o : Oper} {v : Value} {a : Act} {w y : World} (h : YL P ops o v a w) (hy : Later w y) : YL P ops o v a y :=
  h.imp (fun q => ⟨q.1, fun x hx => q.2 x (hy.trans hx)⟩) id
theorem YL.same {o : Oper} {v : Value} {a b : Act} {w : World} (h : YL P ops o v a w) (he : execOp b.eval o = execOp a.eval o) (hw : Region.wanted o (yielded ops b.tmps) = Region.wanted o (yielded ops a.tmps)) : YL P ops o v b w := by
  unfold YL Oper.quietAt at *
  rw [he, hw]
  exact h
theorem YL.op {i : Nat} {o : Oper} {v : Value} {a : Act} {w x : World} {K : Act → World → Prop} (hi : ops[i]? = some o) (h : YL P ops o v a w) (hx : Later w x) (hk : ∀ y, Later x y → K (a.put o.dst v) y) : wpOp P ops Q i K a x := by
  unfold wpOp
  rw [hi]
  dsimp only
  rcases h with ⟨hw, hq⟩ | ⟨hw, hv⟩
  · rw [if_pos hw]
    refine Or.inl ?_
    have q := hq x hx
    unfold Oper.quietAt at q
    unfold Oper.wp
    revert q
    cases (execOp a.eval o).run P x with
    | halt _ _ => exact False.elim
    | ok r y =>
      cases r with
      | value u => rintro ⟨rfl, rfl⟩; exact hk _ (Later.refl _)
      | skip => rintro ⟨rfl, rfl⟩; exact hk _ (Later.refl _)
      | enter f args => rintro ⟨rfl, hc⟩; exact hc.mono (by rintro _ z ⟨rfl, hz⟩; exact hk _ hz)
      | _ => exact False.elim
  · rw [if_neg (by rw [hw]; exact Bool.false_ne_true), ← hv]
    exact hk _ (Later.refl _)
/-- What an operation may do to the frame: its own slot, or a call that is put off. -/
def Fr (d : Option Tmp) (a b : Act) : Prop := ∃ u, b = a.put d u ∨ ∃ f, b = { a with defers := f :: a.defers }.put d u
theorem op_frame {j : Nat} {oj : Oper} {K : Act → World → Prop} {a : Act} {x : World} (hj : ops[j]? = some oj) (h : wpOp P ops Q j K a x) : wpOp P ops Q j (fun b y => Fr oj.dst a b ∧ K b y) a x := by
  unfold wpOp at h ⊢
  rw [hj] at h ⊢
  dsimp only at h ⊢
  split
  · rename_i hw
    rw [if_pos hw] at h
    refine h.imp_left fun q => ?_
    unfold Oper.wp at q ⊢
    revert q
    cases (execOp a.eval oj).run P x with
    | halt r y => cases r <;> exact id
    | ok r y =>
      cases r with
      | value u => exact fun q => ⟨⟨u, .inl rfl⟩, q⟩
      | skip => exact fun q => ⟨⟨undef, .inl rfl⟩, q⟩
      | defer f => exact fun q => ⟨⟨undef, .inr ⟨f, rfl⟩⟩, q⟩
      | enter f args => exact fun q => Calls.mono q fun e z hz => by cases e <;> first | exact ⟨⟨_, .inl rfl⟩, hz⟩ | exact hz
      | row r args => exact fun q => Rows.mono q fun u z hz => ⟨⟨u, .inl rfl⟩, hz⟩
      | _ => exact id
  · rename_i hw
    rw [if_neg hw] at h
    exact ⟨⟨undef, .inl rfl⟩, h⟩
/-- An operation beside another that has its value already: the library's law for no world at all, and what the frame may be behind it. -/
theorem op_beside {j : Nat} {oi oj : Oper} {v : Value} {w : World} (hj : ops[j]? = some oj) (hap : oi.apart ops oj = true) (hsi : ∀ cs b, oi.op ≠ .select cs b) (hsj : ∀ cs b, oj.op ≠ .select cs b)
    (hQ : ∀ c a w, Q (.panic c) (a.put oi.dst v) w → Q (.panic c) a w) {K : Act → World → Prop} {a : Act} {x : World} (hy : YL P ops oi v a w) (h : wpOp P ops Q j K (a.put oi.dst v) x) :
    wpOp P ops Q j (fun a' y => YL P ops oi v a' w ∧ K (a'.put oi.dst v) y) a x := by
  have h3 := (Oper.apart_spec hap).2.2
  refine wpOp_mono ?_ (op_frame hj (wpOp_putIf (S := fun _ => False) hj hap hsi hsj hQ (hy.imp (fun q => ⟨q.1, fun _ hf => hf.elim⟩) id) h))
  rintro b y ⟨⟨u, rfl | ⟨f, rfl⟩⟩, -, hk⟩
  · exact ⟨hy.same (execOp_put oi hsi a oj.dst u h3) (wanted_put oi a oj.dst u h3), hk⟩
  · have q : YL P ops oi v { a with defers := f :: a.defers } w := hy.same rfl rfl
    exact ⟨q.same (execOp_put oi hsi _ oj.dst u h3) (wanted_put oi _ oj.dst u h3), hk⟩
/-- Who may come up waits for nobody who has not come up. -/
theorem ready_free {l : Array Bool} {i j : Nat} {oj : Oper} (hi : i ∈ Region.ready md ops l) (hj : j ∈ Region.ready md ops l) (ho : ops[j]? = some oj) : ∀ e ∈ oj.after, Region.binds md e = true → e.on ≠ i := by
  obtain ⟨-, o', ho', hall⟩ := mem_ready.1 hj
  obtain rfl : oj = o' := Option.some.inj (ho.symm.trans ho')
  rintro e he hb rfl
  have q := hall e he hb
  have z := (mem_ready.1 hi).1
  grind
theorem wpL_first {i : Nat} {oi : Oper} {v : Value} (hi : ops[i]? = some oi) (hsel : ∀ (j : Nat) (o : Oper) cs b, ops[j]? = some o → o.op ≠ .select cs b) (hQ : ∀ c a w, Q (.panic c) (a.put oi.dst v) w → Q (.panic c) a w) :
    ∀ (n : Nat) (l : Array Bool) (a : Act) (w : World), (∀ j oj, ops[j]? = some oj → j ≠ i → l.getD j true = false → (∀ e ∈ oj.after, Region.binds md e = true → e.on ≠ i) → oi.apart ops oj = true) →
      i ∈ Region.ready md ops l → YL P ops oi v a w → wpL P md ops Q n (l.setIfInBounds i true) (a.put oi.dst v) w → wpL P md ops Q (n + 1) l a w := by
  intro n
  induction n with
  | zero =>
    intro l a w _ hr hy H x hx
    refine ⟨fun h => (by rw [h] at hr; cases hr), fun j hj => ?_⟩
    by_cases hji : j = i
    · subst hji
      exact hy.op hi hx fun y hxy => ⟨hxy, wpL_later 0 _ _ _ _ (hx.trans hxy) H⟩
    · have q := ready_mono hj hji
      rw [H.1] at q
      cases q
  | succ n ih =>
    intro l a w hfree hr hy H x hx
    refine ⟨fun h => (by rw [h] at hr; cases hr), fun j hj => ?_⟩
    by_cases hji : j = i
    · subst hji
      exact hy.op hi hx fun y hxy => ⟨hxy, wpL_later (n + 1) _ _ _ _ (hx.trans hxy) H⟩
    · obtain ⟨hun, oj, hoj, -⟩ := mem_ready.1 hj
      have q := op_beside hoj (hfree j oj hoj hji hun (ready_free hr hj hoj)) (fun cs b => hsel i oi cs b hi) (fun cs b => hsel j oj cs b hoj) hQ hy ((H x hx).2 j (ready_mono hj hji))
      refine wpOp_mono (fun b y hb => ⟨hb.2.1, ih (l.setIfInBounds j true) b y (fun k ok hk hki hku hno => hfree k ok hk hki ?_ hno) (ready_mono hr (Ne.symm hji)) (hb.1.later (hx.trans hb.2.1)) ?_⟩) q
      · by_cases hjk : j = k
        · subst hjk; exact hun
        · rw [getD_set_ne true hjk] at hku; exact hku
      · rw [Array.setIfInBounds_comm _ _ hji]
        exact hb.2.2
theorem at_drop {L r : List Oper} {i : Nat} {o : Oper} (h : L.drop i = o :: r) : L.toArray[i]? = some o := by
  have q : (L.drop i)[0]? = some o := by rw [h]; rfl
  simpa using q
/-- Take number i: a value. -/
theorem wpL_val {L r : List Oper} {i : Nat} {oi : Oper} {v : Value} {n : Nat} {l : Array Bool} {a : Act} {w : World} (hi : L.drop i = oi :: r) (hs : Region.noSelect L.toArray = true) (hf : Region.free md L.toArray l i = true) (hr : (Region.ready md L.toArray l).contains i = true)
    (hQ : ∀ c a w, Q (.panic c) (a.put oi.dst v) w → Q (.panic c) a w) (hw : Region.wanted oi (yielded L.toArray a.tmps) = true) (hy : ∀ x, Later w x → (execOp a.eval oi).run P x = .ok (.value v) x)
    (h : wpL P md L.toArray Q n (l.setIfInBounds i true) (a.put oi.dst v) w) : wpL P md L.toArray Q (n + 1) l a w :=
  wpL_first (at_drop hi) (Region.noSelect_spec hs) hQ n l a w (Region.free_spec (at_drop hi) hf) (by simpa using hr) (Or.inl ⟨hw, fun x hx => by unfold Oper.quietAt; rw [hy x hx]; exact ⟨rfl, rfl⟩⟩) h
/-- Take number i: a call. -/
theorem wpL_call {L r : List Oper} {i : Nat} {oi : Oper} {v : Value} {f : FuncId} {args : Array Value} {n : Nat} {l : Array Bool} {a : Act} {w : World} (hi : L.drop i = oi :: r) (hs : Region.noSelect L.toArray = true) (hf : Region.free md L.toArray l i = true) (hr : (Region.ready md L.toArray l).contains i = true)
    (hQ : ∀ c a w, Q (.panic c) (a.put oi.dst v) w → Q (.panic c) a w) (hw : Region.wanted oi (yielded L.toArray a.tmps) = true) (hy : ∀ x, Later w x → (execOp a.eval oi).run P x = .ok (.enter f args) x)
    (hc : ∀ x, Later w x → Calls P f args x fun e y => e = .returned v ∧ Below x.heap.size x y)
    (h : wpL P md L.toArray Q n (l.setIfInBounds i true) (a.put oi.dst v) w) : wpL P md L.toArray Q (n + 1) l a w :=
  wpL_first (at_drop hi) (Region.noSelect_spec hs) hQ n l a w (Region.free_spec (at_drop hi) hf) (by simpa using hr) (Or.inl ⟨hw, fun x hx => by unfold Oper.quietAt; rw [hy x hx]; exact ⟨rfl, hc x hx⟩⟩) h
/-- One alone may come up: it is carried out in a later world. -/
theorem wpL_one {L r : List Oper} {i : Nat} {oi : Oper} {n : Nat} {l : Array Bool} {a : Act} {w : World} (hr : Region.ready md L.toArray l = [i]) (hi : L.drop i = oi :: r) (hw : Region.wanted oi (yielded L.toArray a.tmps) = true)
    (h : ∀ x, Later w x → ∃ (v : Value) (y : World), (execOp a.eval oi).run P x = .ok (.value v) y ∧ Later x y ∧ wpL P md L.toArray Q n (l.setIfInBounds i true) (a.put oi.dst v) y) : wpL P md L.toArray Q (n + 1) l a w := by
  intro x hx
  rw [hr]
  refine ⟨fun h => (by cases h), fun j hj => ?_⟩
  rw [List.mem_singleton] at hj
  subst hj
  obtain ⟨v, y, h1, h2, h3⟩ := h x hx
  unfold wpOp
  rw [at_drop hi]
  dsimp only
  rw [if_pos hw]
  refine Or.inl ?_
  unfold Oper.wp
  rw [h1]
  exact ⟨h2, h3⟩
theorem wpL_done {l : Array Bool} {a : Act} {w : World} (hr : Region.ready md ops l = []) (h : ∀ x, Later w x → Q .normal a x) : ∀ n, wpL P md ops Q n l a w
  | 0 => ⟨hr, h⟩
  | _ + 1 => fun x hx => ⟨fun _ => h x hx, by rw [hr]; simp⟩
theorem wp_region_later {id : Nat} {a : Act} {w : World} (hm : P.follows .mixedOrders = true) (h : wpL P .any ops Q ops.size (Array.replicate ops.size false) a w.drew) : (Code.region id ops true).wp P Q a w :=
  wp_region_any hm (wpAny_of_L _ _ _ _ h)
end
section
variable {P : Program} {Q : Exit → Act → World → Prop} {md : Region.Mode}
/-- One alone may come up, and its call panics. -/
theorem wpL_panics {L r : List Oper} {i : Nat} {oi : Oper} {f : FuncId} {args : Array Value} {chain : List PanicEntry} {n : Nat} {l : Array Bool} {a : Act} {w : World} (hr : Region.ready md L.toArray l = [i]) (hi : L.drop i = oi :: r) (hw : Region.wanted oi (yielded L.toArray a.tmps) = true)
    (hy : ∀ x, Later w x → (execOp a.eval oi).run P x = .ok (.enter f args) x) (hc : ∀ x, Later w x → Calls P f args x fun e y => e = .panicked chain ∧ Q (.panic chain) a y) : wpL P md L.toArray Q (n + 1) l a w := by
  intro x hx
  rw [hr]
  refine ⟨fun h => (by cases h), fun j hj => ?_⟩
  rw [List.mem_singleton] at hj
  subst hj
  unfold wpOp
  rw [at_drop hi]
  dsimp only
  rw [if_pos hw]
  refine Or.inl ?_
  unfold Oper.wp
  rw [hy x hx]
  exact (hc x hx).mono (by rintro e y ⟨rfl, hq⟩; exact hq)
end
section
variable {P : Program} {Q : Exit → Act → World → Prop} {md : Region.Mode}
/-- Take number i: it is not wanted. -/
theorem wpL_skip {L r : List Oper} {i : Nat} {oi : Oper} {n : Nat} {l : Array Bool} {a : Act} {w : World} (hi : L.drop i = oi :: r) (hs : Region.noSelect L.toArray = true) (hf : Region.free md L.toArray l i = true) (hr : (Region.ready md L.toArray l).contains i = true)
    (hQ : ∀ c a w, Q (.panic c) (a.put oi.dst undef) w → Q (.panic c) a w) (hw : Region.wanted oi (yielded L.toArray a.tmps) = false)
    (h : wpL P md L.toArray Q n (l.setIfInBounds i true) (a.put oi.dst undef) w) : wpL P md L.toArray Q (n + 1) l a w :=
  wpL_first (at_drop hi) (Region.noSelect_spec hs) hQ n l a w (Region.free_spec (at_drop hi) hf) (by simpa using hr) (Or.inr ⟨hw, rfl⟩) h
end
end Go.Proofs.Ytcnjjbgilpgceaa
