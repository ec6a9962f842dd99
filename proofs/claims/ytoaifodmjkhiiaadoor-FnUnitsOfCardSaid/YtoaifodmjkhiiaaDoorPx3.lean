/- Texts of ours, laid one behind the other: TreM, UnR, SumM, HexM, SumS, UnM, StrsA, DecM, Dec, StrsB, UnRm, HoA, HsM. -/
import Derived.Test.YtoaifodmjkhiiaaDoorPx2
import Derived.PlainAid
import Derived.OwnWalk
import Derived.Deep.RegionHeld3
import Derived.Deep.DrawnRows
import Derived.Deep.AppendLies
import Derived.Lib.LaidTab
import Derived.Lib.SmallJoins
import Derived.Deep.QuietTactic
import Derived.BigQuiet
import Derived.Deep.LoopGhost
import Derived.Deep.CutRange
/- TreM: Trees, plain: where a node is, right files, right directories, right trees. Nothing of the program is read here. -/
namespace Go.Proofs.YtoaifodmjkhiiaaDoor
set_option maxRecDepth 100000

/-- The place of a node, -1 without one. -/
def atI (ns : List NM) (id : Int) : Int := match ns.findIdx? (fun n => n.id == id) with
  | some i => (i : Int)
  | none => -1
theorem atI_none {ns : List NM} {id : Int} (h : ∀ n ∈ ns, n.id ≠ id) : atI ns id = -1 := by
  unfold atI
  rw [List.findIdx?_eq_none_iff.2 (fun n hn => by simpa using h n hn)]
theorem atI_some {ns : List NM} {id : Int} {i : Nat} (hi : i < ns.length) (h : ns[i].id = id) (hl : ∀ j, j < i → ∀ hj : j < ns.length, ns[j].id ≠ id) : atI ns id = (i : Int) := by
  unfold atI
  have : ns.findIdx? (fun n => n.id == id) = some i := by
    rw [List.findIdx?_eq_some_iff_getElem]
    exact ⟨hi, by simpa using h, fun j hj => by simpa using hl j hj (by omega)⟩
  rw [this]
theorem atI_cases (ns : List NM) (id : Int) : (atI ns id = -1 ∧ ∀ n ∈ ns, n.id ≠ id) ∨ ∃ i, ∃ hi : i < ns.length, atI ns id = (i : Int) ∧ ns[i].id = id := by
  unfold atI
  cases h : ns.findIdx? (fun n => n.id == id) with
  | none =>
    left
    exact ⟨rfl, fun n hn => by have := List.findIdx?_eq_none_iff.1 h n hn; simpa using this⟩
  | some i =>
    right
    obtain ⟨hi, h1, _⟩ := List.findIdx?_eq_some_iff_getElem.1 h
    exact ⟨i, hi, rfl, by simpa using h1⟩
def inI (x a b : Int) : Bool := decide (a ≤ x) && decide (x ≤ b)
theorem inI_iff {x a b : Int} : inI x a b = true ↔ a ≤ x ∧ x ≤ b := by unfold inI; simp
def pieceOk (s : Int) (p : PM) : Bool := inI p.group 1 100000 && inI p.len 1 (groupN s : Nat)
/-- How many bytes pieces have. -/
def sumP : List PM → Int
  | [] => 0
  | p :: ps => p.len + sumP ps
theorem sumP_append (a b : List PM) : sumP (a ++ b) = sumP a + sumP b := by
  induction a with
  | nil => simp [sumP]
  | cons p a ih => simp only [List.cons_append, sumP, ih]; omega
theorem sumP_take (ps : List PM) (k : Nat) (h : k < ps.length) : sumP (ps.take (k + 1)) = sumP (ps.take k) + ps[k].len := by
  rw [List.take_succ_eq_append_getElem h, sumP_append]
  simp [sumP]
theorem sumP_ok {s : Int} {ps : List PM} (h : ∀ p ∈ ps, pieceOk s p = true) : 0 ≤ sumP ps ∧ sumP ps ≤ 32 * ps.length := by
  induction ps with
  | nil => simp [sumP]
  | cons p ps ih =>
    have h1 := ih (fun q hq => h q (by simp [hq]))
    have h2 := h p (by simp)
    unfold pieceOk at h2
    rw [Bool.and_eq_true, inI_iff, inI_iff] at h2
    have h3 := groupN_bounds s
    simp only [sumP, List.length_cons]
    push_cast
    omega
/-- Right for a file. -/
def fileOk (n : NM) : Bool := inI n.schema 1 3 && (n.quota == 0) && decide (n.pieces.length ≤ 40) && inI n.writer 0 9 && n.pieces.all (pieceOk n.schema) && (sumP n.pieces == n.len) && decide (sumP n.pieces ≤ 1000)
/-- Right for a directory. -/
def dirOk (n : NM) : Bool := inI n.schema 0 3 && inI n.quota 0 1000 && (n.len == 0) && decide (n.pieces.length = 0) && (n.writer == 0)
/-- Right for the node that comes first. -/
def firstOk (n : NM) : Bool := (n.id == 1) && (n.parent == 0) && decide (n.name = ⟨#[]⟩) && n.dir && (n.schema != 0)
/-- So many steps up, and the first node is there. -/
def climbs (ns : List NM) : Nat → Int → Bool
  | 0, _ => false
  | f + 1, id => match ns.findIdx? (fun n => n.id == id) with
    | none => false
    | some k => if (ns.getD k default).parent = 1 then true else climbs ns f (ns.getD k default).parent
/-- Right at its place. -/
def nodeOk (T : TM) (i : Nat) : Bool :=
  decide ((T.nodes.getD i default).id < T.next) && (if i = 0 then firstOk (T.nodes.getD i default) else decide ((T.nodes.getD (i - 1) default).id < (T.nodes.getD i default).id)) &&
  (if (T.nodes.getD i default).dir then dirOk (T.nodes.getD i default) else fileOk (T.nodes.getD i default)) &&
  (decide (i = 0) || (nameB (T.nodes.getD i default).name && decide (0 ≤ atI T.nodes (T.nodes.getD i default).parent) && (T.nodes.getD (atI T.nodes (T.nodes.getD i default).parent).toNat default).dir &&
    (List.range i).all (fun j => ! (((T.nodes.getD j default).parent == (T.nodes.getD i default).parent) && decide ((T.nodes.getD j default).name = (T.nodes.getD i default).name))) && climbs T.nodes 4 (T.nodes.getD i default).id))
def treeOk (T : TM) : Bool := decide (1 ≤ T.nodes.length) && decide (T.nodes.length ≤ 14) && decide (T.next ≤ 100000) && (List.range T.nodes.length).all (nodeOk T)
end Go.Proofs.YtoaifodmjkhiiaaDoor
/- UnR: Rows of Units in the laws: their sizes, their copies, two that are the same (written by gen/mkrow.py). -/
namespace Go.Proofs.YtoaifodmjkhiiaaDoor
set_option maxRecDepth 100000
open Go.RowKit
attribute [local go_sem ↓] Go.wp_at_zero Go.wp_at_succ

structure UnM where
  group : Int
  index : Int
  text : ByteArray
  sum : Int
instance : Inhabited UnM := ⟨⟨0, 0, ⟨#[]⟩, 0⟩⟩
abbrev unv (f : UnM) : Value := .agg #[.int .i64 f.group, .int .i64 f.index, .string f.text, .int .i64 f.sum]
def unC (f : UnM) : List Value := [.int .i64 f.group, .int .i64 f.index, .string f.text, .int .i64 f.sum]
theorem unC_len (f : UnM) : (unC f).length = 4 := rfl
def unS (fs : List UnM) : List Value := fs.flatMap unC
theorem unS_len (fs : List UnM) : (unS fs).length = fs.length * 4 := flat_len unC_len fs
/-- A row in memory. -/
abbrev UnRow (w : World) (a : Option Addr) (fs : List UnM) : Prop := CRow w a (unS fs)
theorem UnRow.at {w : World} {a : Option Addr} {fs : List UnM} (h : UnRow w a fs) (hp : 0 < fs.length) :
    ∃ b off, a = some ⟨b, off, none⟩ ∧ b < w.heap.size ∧ ∀ j (h : j < fs.length), w.cell? ⟨b, off + j * 4, none⟩ = some (.int .i64 fs[j].group) ∧ w.cell? ⟨b, off + j * 4 + 1, none⟩ = some (.int .i64 fs[j].index) ∧ w.cell? ⟨b, off + j * 4 + 2, none⟩ = some (.string fs[j].text) ∧ w.cell? ⟨b, off + j * 4 + 3, none⟩ = some (.int .i64 fs[j].sum) := by
  obtain ⟨b, off, e, hb, hc⟩ := h (by rw [unS_len]; omega)
  exact ⟨b, off, e, hb, fun j hj => ⟨hc (j * 4) _ (flat_get unC_len fs j hj 0 (by omega)), hc (j * 4 + 1) _ (flat_get unC_len fs j hj 1 (by omega)), hc (j * 4 + 2) _ (flat_get unC_len fs j hj 2 (by omega)), hc (j * 4 + 3) _ (flat_get unC_len fs j hj 3 (by omega))⟩⟩
def UnFit (f : UnM) : Prop := f.text.size ≤ 9223372036854775807 ∧ (-9223372036854775808 ≤ f.group ∧ f.group ≤ 9223372036854775807) ∧ (-9223372036854775808 ≤ f.index ∧ f.index ≤ 9223372036854775807) ∧ (-9223372036854775808 ≤ f.sum ∧ f.sum ≤ 9223372036854775807)
def UnFits (fs : List UnM) : Prop := fs.length ≤ 9223372036854775807 ∧ ∀ f ∈ fs, UnFit f
def unSum : List UnM → Nat
  | [] => 0
  | f :: fs => f.text.size + unSum fs
theorem unSum_take (fs : List UnM) (k : Nat) (h : k < fs.length) : unSum (fs.take (k + 1)) = unSum (fs.take k) + (fs[k].text.size) := by
  induction fs generalizing k with
  | nil => simp at h
  | cons f fs ih =>
    cases k with
    | zero => simp [unSum]
    | succ k =>
      have := ih k (by simpa using h)
      simp only [List.take_succ_cons, unSum, List.getElem_cons_succ]
      omega
theorem unSum_mem {fs : List UnM} {f : UnM} (h : f ∈ fs) : f.text.size ≤ unSum fs := by
  induction fs with
  | nil => cases h
  | cons g fs ih =>
    rcases List.mem_cons.1 h with rfl | q
    · simp only [unSum]; omega
    · have := ih q
      simp only [unSum]; omega
def SzPostUn (left : Int) (n : Nat) (w : World) (e : Ending) (w' : World) : Prop := ∃ r : Int, e = .returned (.int .i64 r) ∧ -1 ≤ r ∧ (0 ≤ r → r + n = left) ∧ Below w.heap.size w w'
set_option maxHeartbeats 400000 in
theorem szUnit_any (f : UnM) (left : Int) (w : World) (h0 : 0 ≤ left) (h1 : left ≤ 1048576) (hf : UnFit f) :
    Calls Tryd.prog 52 #[unv f, .int .i64 left] w fun e w' => SzPostUn left (f.text.size) w e w' := by
  have hh := hf
  unfold UnFit at hh
  clear hf
  by_cases c_text : left - f.text.size < 0
  · go_enter Tryd.func52, Tryd.ntmps52
    go_wp2_with fail
    go_ret
    exact ⟨-1, rfl, by omega, by first | omega | (intro _; push_cast; omega), (Below.refl _ _).alloc (Nat.le_refl _) _⟩
  · skip
    go_enter Tryd.func52, Tryd.ntmps52
    go_wp2_with fail
    go_ret
    exact ⟨left - f.text.size, rfl, by omega, by first | omega | (intro _; push_cast; omega), (Below.refl _ _).alloc (Nat.le_refl _) _⟩
set_option maxHeartbeats 1000000 in
theorem szUnitS_any (a : Option Addr) (fs : List UnM) (cap : Nat) (left : Int) (w : World) (hr : UnRow w a fs) (hf : UnFits fs) (h0 : 0 ≤ left) (h1 : left ≤ 1048576) :
    Calls Tryd.prog 40 #[.slice a fs.length cap, .int .i64 left] w fun e w' => SzPostUn left (fs.length + unSum fs) w e w' := by
  have hl := hf.1
  by_cases c1 : left - fs.length < 0
  · clear hr hf
    go_enter Tryd.func40, Tryd.ntmps40
    go_wp2_with fail
    go_ret
    exact ⟨-1, rfl, by omega, by omega, Below.refl _ _⟩
  · have HR : Hid (UnRow w a fs) := hr
    have HF : Hid (UnFits fs) := hf
    clear hr hf
    go_enter Tryd.func40, Tryd.ntmps40
    go_wp2_with fail
    go_loopw [1, 5] (fun v i wr => ∃ (k : Nat) (l : Int), v = .int .i64 l ∧ i = .int .i64 k ∧ k ≤ fs.length ∧ 0 ≤ l ∧ l + fs.length + unSum (fs.take k) = left ∧ Below w.heap.size w wr) (fun _ i _ => fs.length - (intOf i).toNat)
    case atStart => exact ⟨0, left - fs.length, rfl, rfl, Nat.zero_le _, by omega, by simp [unSum], Below.refl _ _⟩
    case round =>
      obtain ⟨k, l, rfl, rfl, hk, hl0, hsum, hb⟩ := hrel
      by_cases hlt : k < fs.length
      · obtain ⟨b, off, rfl, hbl, hc⟩ := UnRow.at (HR.out.stays hb) (by omega)
        obtain ⟨d0, d1, d2, d3⟩ := hc k hlt
        have HS : Hid (l + fs.length + unSum (fs.take k) = left) := hsum
        have hst := unSum_take fs k hlt
        have HST : Hid (unSum (fs.take (k + 1)) = unSum (fs.take k) + (fs[k].text.size)) := hst
        have hfk := HF.out.2 fs[k] (List.getElem_mem hlt)
        obtain ⟨f, hfe⟩ : ∃ f, f = fs[k] := ⟨_, rfl⟩
        rw [← hfe] at d0 d1 d2 d3 hfk
        have HFE : Hid (f = fs[k]) := hfe
        have HB : Hid (Below w.heap.size w wr) := hb
        have hl1 : l ≤ 1048576 := by omega
        have k0 : (0 : Int) ≤ (k : Int) := by omega
        have k1 : (k : Int) < (fs.length : Int) := by omega
        clear hc hsum hst hfe hb
        go_wp2_with fail
        refine (szUnit_any f l _ hl0 hl1 hfk).mono ?_
        rintro e w2 ⟨r, rfl, hr1, hr2, hb2⟩
        have HB2 : Hid (Below w.heap.size w w2) := HB.out.trans (hb2.mono HB.out.size)
        clear hb2
        by_cases hr : r < 0
        · go_wp2_with fail
          go_ret
          exact ⟨-1, rfl, by omega, by omega, HB2.out⟩
        · have hr3 := hr2 (by omega)
          have HR3 : Hid (r + ((f.text.size : Nat) : Int) = l) := hr3
          clear hr2 hr3
          go_wp2_with fail
          go_roundw
          case rel => exact ⟨k + 1, r, rfl, by go_num, by omega, by omega, by rw [HST.out, ← HFE.out]; have := HR3.out; have := HS.out; push_cast at *; omega, HB2.out⟩
          case measure => simp [intOf]; omega
      · obtain rfl : k = fs.length := by omega
        rw [List.take_length] at hsum
        go_wp2_with fail
        go_ret
        exact ⟨l, rfl, by omega, by intro _; push_cast; omega, hb⟩
theorem toUnit_any (f : UnM) (w : World) :
    Calls Tryd.prog 53 #[unv f] w fun e w' => e = .returned (unv f) ∧ Below w.heap.size w w' := by
  go_enter Tryd.func53, Tryd.ntmps53
  go_wp2_with fail
  refine bodyPost_ret (v := unv f) (by simp [results, Tryd.results53, go_sem]) rfl ⟨rfl, ?_⟩
  exact (((Below.refl _ _).alloc (Nat.le_refl _) _).alloc (by simp) _).alloc (by simp; omega) _
/-- A copy, in a block of its own. -/
def ToPostUn (fs : List UnM) (w : World) (e : Ending) (w' : World) : Prop := ∃ g, e = .returned (.slice (some ⟨g, 0, none⟩) fs.length fs.length) ∧ w.heap.size ≤ g ∧ WCells w' g (unS fs) ∧ Below w.heap.size w w'
theorem infoUnit : (Tryd.prog.info? 65).map (fun i => (i.zero, i.size, i.bytes)) = some (some (.agg #[.int .i64 0, .int .i64 0, .string ⟨#[]⟩, .int .i64 0]), 4, 40) := by kernel_rfl
set_option maxHeartbeats 1000000 in
theorem toUnitS_any (a : Option Addr) (fs : List UnM) (cap : Nat) (w : World) (hr : UnRow w a fs) (hl : fs.length ≤ 1048576) :
    Calls Tryd.prog 41 #[.slice a fs.length cap] w fun e w' => ToPostUn fs w e w' := by
  obtain ⟨i0, hi, hz0, hz1, hz2⟩ := info_parts infoUnit
  have HR : Hid (UnRow w a fs) := hr
  clear hr
  go_enter Tryd.func41, Tryd.ntmps41
  go_wp2_with (at_make; refine wpList_make_full _ rfl _ _ 44 rfl w.heap.size 65 i0 _ 4 Tryd.underlying44 hi hz0 hz1 .i64 .i64 _ _ fs.length rfl rfl (by omega) (by omega) ?b2 ?b3 ?b4 ?_)
  case b2 => rw [hz2]; omega
  case b3 => unfold maxLen; omega
  case b4 => omega
  intro wm hownm hgrm
  have hbm : Below w.heap.size w wm := (Below.refl _ _).grown hgrm (Nat.le_refl _) (fun j hj => by simp at hj)
  have hrow : WCells wm w.heap.size (unS (List.replicate fs.length default)) := by
    have h := own_wcells hownm
    have e : (madeCells #[.int .i64 0, .int .i64 0, .string ⟨#[]⟩, .int .i64 0] (fs.length * 4)).toList = unS (List.replicate fs.length default) := made_flat unC_len (by decide) #[.int .i64 0, .int .i64 0, .string ⟨#[]⟩, .int .i64 0] default rfl _
    rw [e] at h; exact h
  clear hownm hgrm
  go_wp2_with fail
  go_loopw [4] (fun i wr => ∃ (k : Nat) (gs : List UnM), i = .int .i64 k ∧ k ≤ fs.length ∧ gs.length = fs.length ∧ gs.take k = fs.take k ∧ WCells wr w.heap.size (unS gs) ∧ Below w.heap.size w wr) (fun i _ => fs.length - (intOf i).toNat)
  case atStart => exact ⟨0, _, rfl, by omega, by simp, by simp, hrow, hbm⟩
  case round =>
    clear hrow hbm
    obtain ⟨k, gs, rfl, hk, hgl, hgt, hw, hb⟩ := hrel
    by_cases hlt : k < fs.length
    · obtain ⟨b, off, rfl, hbl, hc⟩ := UnRow.at HR.out (by omega)
      obtain ⟨d0, d1, d2, d3⟩ := hc k hlt
      rw [← hb.cell (p := ⟨b, off + k * 4, none⟩) hbl] at d0
      rw [← hb.cell (p := ⟨b, off + k * 4 + 1, none⟩) hbl] at d1
      rw [← hb.cell (p := ⟨b, off + k * 4 + 2, none⟩) hbl] at d2
      rw [← hb.cell (p := ⟨b, off + k * 4 + 3, none⟩) hbl] at d3
      obtain ⟨f, hfe⟩ : ∃ f, f = fs[k] := ⟨_, rfl⟩
      rw [← hfe] at d0 d1 d2 d3
      have k0 : (0 : Int) ≤ (k : Int) := by omega
      have k1 : (k : Int) < (fs.length : Int) := by omega
      have HFE : Hid (f = fs[k]) := hfe
      have HG : Hid (gs.length = fs.length ∧ gs.take k = fs.take k) := ⟨hgl, hgt⟩
      clear hc hfe hgl hgt
      go_wp2_with fail
      refine (toUnit_any f _).mono ?_
      rintro e w2 ⟨rfl, hb2⟩
      have hw2 := hw.below hb2 hw.1
      have hb3 : Below w.heap.size w w2 := hb.trans (hb2.mono hb.size)
      clear hw hb hb2 d0 d1 d2 d3
      have hgk : k < gs.length := by have := HG.out.1; omega
      obtain ⟨c0, z0⟩ := hw2.2 (k * 4) _ (flat_get unC_len gs k hgk 0 (by omega))
      obtain ⟨c1, z1⟩ := hw2.2 (k * 4 + 1) _ (flat_get unC_len gs k hgk 1 (by omega))
      obtain ⟨c2, z2⟩ := hw2.2 (k * 4 + 2) _ (flat_get unC_len gs k hgk 2 (by omega))
      obtain ⟨c3, z3⟩ := hw2.2 (k * 4 + 3) _ (flat_get unC_len gs k hgk 3 (by omega))
      have HW : Hid (WCells w2 w.heap.size (unS gs)) := hw2
      clear hw2
      have hset := HW.out.setElem unC_len k hgk f
      have hbn := below_setW hb3 (Nat.le_refl _) (k * 4) (unC f)
      have HS : Hid (WCells (setW w2 w.heap.size (k * 4) (unC f)) w.heap.size (unS (gs.set k f))) := hset
      have HBN : Hid (Below w.heap.size w (setW w2 w.heap.size (k * 4) (unC f))) := hbn
      clear hset hbn
      go_wp2_with fail
      go_roundw
      case rel =>
        refine ⟨k + 1, gs.set k f, by go_num, by omega, by rw [List.length_set]; exact HG.out.1, ?_, HS.out, HBN.out⟩
        rw [List.take_succ_eq_append_getElem (by rw [List.length_set]; exact hgk), List.take_succ_eq_append_getElem hlt, List.take_set_of_le (Nat.le_refl _), HG.out.2, List.getElem_set_self, HFE.out]
      case measure => simp [intOf]; omega
    · have e : gs = fs := by
        rw [List.take_of_length_le (by omega), List.take_of_length_le (by omega)] at hgt; exact hgt
      subst e
      go_wp2_with fail
      go_ret
      exact ⟨_, rfl, Nat.le_refl _, hw, hb⟩
theorem eqUnit_same (f : UnM) (w : World) :
    Calls Tryd.prog 57 #[unv f, unv f] w fun e w' => e = .returned (.bool true) ∧ Below w.heap.size w w' := by
  go_enter Tryd.func57, Tryd.ntmps57
  go_wp2_with fail
  go_ret
  exact ⟨rfl, ((Below.refl _ _).alloc (Nat.le_refl _) _).alloc (by simp) _⟩
set_option maxHeartbeats 1000000 in
theorem eqUnitS_same (a b : Option Addr) (fs : List UnM) (ca cb : Nat) (w : World) (ha : UnRow w a fs) (hb : UnRow w b fs) (hl : fs.length ≤ 9000000) :
    Calls Tryd.prog 43 #[.slice a fs.length ca, .slice b fs.length cb] w fun e w' => e = .returned (.bool true) ∧ Below w.heap.size w w' := by
  have HA : Hid (UnRow w a fs) := ha
  have HB : Hid (UnRow w b fs) := hb
  clear ha hb
  go_enter Tryd.func43, Tryd.ntmps43
  go_wp2_with fail
  go_loopw [5] (fun i wr => ∃ (k : Nat), i = .int .i64 k ∧ k ≤ fs.length ∧ Below w.heap.size w wr) (fun i _ => fs.length - (intOf i).toNat)
  case atStart => exact ⟨0, rfl, Nat.zero_le _, Below.refl _ _⟩
  case round =>
    obtain ⟨k, rfl, hk, hbl⟩ := hrel
    by_cases hlt : k < fs.length
    · obtain ⟨b1, o1, rfl, l1, hc1⟩ := UnRow.at (HA.out.stays hbl) (by omega)
      obtain ⟨b2, o2, rfl, l2, hc2⟩ := UnRow.at (HB.out.stays hbl) (by omega)
      obtain ⟨d0, d1, d2, d3⟩ := hc1 k hlt
      obtain ⟨e0, e1, e2, e3⟩ := hc2 k hlt
      obtain ⟨f, hfe⟩ : ∃ f, f = fs[k] := ⟨_, rfl⟩
      rw [← hfe] at d0 d1 d2 d3 e0 e1 e2 e3
      have HS : Hid (Below w.heap.size w wr) := hbl
      have k0 : (0 : Int) ≤ (k : Int) := by omega
      have k1 : (k : Int) < (fs.length : Int) := by omega
      clear hc1 hc2 hfe hbl
      go_wp2_with fail
      go_region_held3 (fun w' => w'.cell? ⟨b1, o1 + k * 4, none⟩ = some (.int .i64 f.group) ∧ w'.cell? ⟨b1, o1 + k * 4 + 1, none⟩ = some (.int .i64 f.index) ∧ w'.cell? ⟨b1, o1 + k * 4 + 2, none⟩ = some (.string f.text) ∧ w'.cell? ⟨b1, o1 + k * 4 + 3, none⟩ = some (.int .i64 f.sum) ∧ w'.cell? ⟨b2, o2 + k * 4, none⟩ = some (.int .i64 f.group) ∧ w'.cell? ⟨b2, o2 + k * 4 + 1, none⟩ = some (.int .i64 f.index) ∧ w'.cell? ⟨b2, o2 + k * 4 + 2, none⟩ = some (.string f.text) ∧ w'.cell? ⟨b2, o2 + k * 4 + 3, none⟩ = some (.int .i64 f.sum))
        (first | go_keep | (refine ⟨?_, ?_, ?_, ?_, ?_, ?_, ?_, ?_⟩ <;> first | (rw [hb2.cell (by exact l1)]; simp [*]) | (rw [hb2.cell (by exact l2)]; simp [*])))
        ((go_at_call 57; refine (eqUnit_same f _).mono ?_; rintro e w2 ⟨rfl, hb2⟩))
      all_goals go_wp2_with fail
      all_goals
        have hb3 : Below w.heap.size w w2 := HS.out.trans ((Below.drew (Below.refl _ _)).trans (hb2.mono HS.out.size))
        exact ⟨⟨k + 1, by go_num, by omega, hb3⟩, by simp [intOf]; omega⟩
    · have e : k = fs.length := by omega
      subst e
      go_wp2_with fail
      go_ret
      exact ⟨rfl, hbl⟩
end Go.Proofs.YtoaifodmjkhiiaaDoor
/- SumM: Plain facts on check sums of 32 bits: one step of the sum is told by 'st', a sum over bytes by 'crc', its four bytes by 'four'; nothing of the program is read here. -/
namespace Go.Proofs.YtoaifodmjkhiiaaDoor.W
abbrev B32 := BitVec 32
def poly : B32 := 3558460437#32
/-- One step: half of it, and the number when it was odd. -/
def st (x : B32) : B32 := (x >>> 1) ^^^ (if x.getLsbD 0 then poly else 0#32)
def st4 (x : B32) : B32 := st (st (st (st x)))
def st8 (x : B32) : B32 := st4 (st4 x)
theorem st_xor (x y : B32) : st (x ^^^ y) = st x ^^^ st y := by
  unfold st
  rw [BitVec.getLsbD_xor, BitVec.ushiftRight_xor_distrib]
  generalize x >>> 1 = a
  generalize y >>> 1 = b
  generalize poly = p
  cases x.getLsbD 0 <;> cases y.getLsbD 0 <;> (ext i hi; simp; try (cases a[i] <;> cases b[i] <;> cases p[i] <;> rfl))
theorem st4_xor (x y : B32) : st4 (x ^^^ y) = st4 x ^^^ st4 y := by unfold st4; rw [st_xor, st_xor, st_xor, st_xor]
theorem st8_xor (x y : B32) : st8 (x ^^^ y) = st8 x ^^^ st8 y := by unfold st8; rw [st4_xor, st4_xor]
theorem st_even (x : B32) (h : x.getLsbD 0 = false) : st x = x >>> 1 := by unfold st; rw [h]; simp
theorem st4_high (x : B32) (h0 : x.getLsbD 0 = false) (h1 : x.getLsbD 1 = false) (h2 : x.getLsbD 2 = false) (h3 : x.getLsbD 3 = false) : st4 x = x >>> 4 := by
  unfold st4
  rw [st_even x h0, st_even (x >>> 1) (by simpa using h1), st_even (x >>> 1 >>> 1) (by simpa [BitVec.getLsbD_ushiftRight] using h2), st_even (x >>> 1 >>> 1 >>> 1) (by simpa [BitVec.getLsbD_ushiftRight] using h3)]
  simp [← BitVec.shiftRight_add]
def tab (n : Nat) : Nat := (st4 (BitVec.ofNat 32 n)).toNat
theorem tab_all : (List.range 16).map tab = [0, 1166650509, 2333301018, 3466261911, 3189058079, 4221339282, 889615109, 1888477064, 3558460437, 2442158232, 1594529039, 444807554, 1779230218, 797264519, 3776954128, 2761298845] := by decide +kernel
/-- Four steps at once: the lowest four bits tell all that is added, the others only move. -/
theorem st4_low (x : B32) : st4 x = (x >>> 4) ^^^ st4 (x &&& 15#32) := by
  have e : x = (x &&& ~~~(15#32)) ^^^ (x &&& 15#32) := by
    ext i hi; simp only [BitVec.getElem_xor, BitVec.getElem_and, BitVec.getElem_not]
    cases x[i] <;> cases (15#32)[i] <;> rfl
  have h : st4 (x &&& ~~~(15#32)) = x >>> 4 := by
    rw [st4_high]
    · ext i hi
      simp only [BitVec.getElem_ushiftRight, BitVec.getLsbD_and, BitVec.getLsbD_not]
      by_cases h : 4 + i < 32
      · have : (15#32).getLsbD (4 + i) = false := by
          have : i < 28 := by omega
          have hall : ∀ j : Fin 28, (15#32).getLsbD (4 + j.val) = false := by decide
          exact hall ⟨i, this⟩
        simp only [this, h]; simp [BitVec.getLsbD_eq_getElem h]
      · simp [BitVec.getLsbD_of_ge x (4 + i) (by omega)]
    all_goals simp
  have h2 := st4_xor (x &&& ~~~(15#32)) (x &&& 15#32)
  rw [h] at h2
  rw [← e] at h2
  exact h2
def stN : Nat → B32 → B32
  | 0, z => z
  | j + 1, z => st (stN j z)
theorem st8_N (z : B32) : stN 8 z = st8 z := rfl
/-- A sum over bytes. -/
def by32 (b : UInt8) : B32 := BitVec.ofNat 32 b.toNat
def crc (s : B32) (l : List UInt8) : B32 := l.foldl (fun s b => st8 (s ^^^ by32 b)) s
theorem crc_snoc (s : B32) (l : List UInt8) (b : UInt8) : crc s (l ++ [b]) = st8 (crc s l ^^^ by32 b) := by simp [crc]
theorem crc_app (s : B32) (l m : List UInt8) : crc s (l ++ m) = crc (crc s l) m := by simp [crc]
/-- The four bytes of a sum, the highest first. -/
def four (x : B32) : List UInt8 := [UInt8.ofNat (x.toNat / 16777216), UInt8.ofNat (x.toNat / 65536), UInt8.ofNat (x.toNat / 256), UInt8.ofNat x.toNat]
theorem four_len (x : B32) : (four x).length = 4 := rfl
theorem four_inj (x y : B32) (h : four x = four y) : x = y := by
  unfold four at h
  simp only [List.cons.injEq, and_true] at h
  obtain ⟨h1, h2, h3, h4⟩ := h
  have g1 := congrArg UInt8.toNat h1
  have g2 := congrArg UInt8.toNat h2
  have g3 := congrArg UInt8.toNat h3
  have g4 := congrArg UInt8.toNat h4
  simp at g1 g2 g3 g4
  have lx := x.isLt
  have ly := y.isLt
  apply BitVec.eq_of_toNat_eq
  omega
theorem st_inj (x y : B32) (h : st x = st y) : x = y := by
  have hz : ∀ z : B32, st z = 0#32 → z = 0#32 := by
    intro z hz
    unfold st at hz
    by_cases h0 : z.getLsbD 0 = true
    · rw [if_pos h0] at hz
      have := congrArg (fun v => BitVec.getLsbD v 31) hz
      simp [poly] at this
    · rw [if_neg h0] at hz
      simp only [BitVec.xor_zero] at hz
      ext i hi
      by_cases hi0 : i = 0
      · subst hi0; simpa using h0
      · have := congrArg (fun v => BitVec.getLsbD v (i - 1)) hz
        simp only [BitVec.getLsbD_ushiftRight] at this
        rw [show 1 + (i - 1) = i by omega] at this
        rw [← BitVec.getLsbD_eq_getElem hi, this]; simp
  have h2 : st (x ^^^ y) = 0#32 := by rw [st_xor, h]; simp
  have h3 := hz _ h2
  exact BitVec.xor_eq_zero_iff.1 h3
theorem st8_inj (x y : B32) (h : st8 x = st8 y) : x = y := by
  unfold st8 st4 at h
  iterate 8 replace h := st_inj _ _ h
  exact h
theorem crc_inj : ∀ (l : List UInt8) (x y : B32), crc x l = crc y l → x = y
  | [], x, y, h => h
  | b :: l, x, y, h => by
    have h1 := st8_inj _ _ (crc_inj l _ _ h)
    have h2 := congrArg (· ^^^ by32 b) h1
    simpa [BitVec.xor_assoc] using h2
theorem by32_inj (a b : UInt8) (h : by32 a = by32 b) : a = b := by
  have := congrArg BitVec.toNat h
  have la := a.toNat_lt
  have lb := b.toNat_lt
  simp [by32] at this
  apply UInt8.toNat_inj.1
  omega
/-- A byte that is another makes another sum. -/
theorem crc_turned (s : B32) (l m : List UInt8) (a b : UInt8) (h : crc s (l ++ a :: m) = crc s (l ++ b :: m)) : a = b := by
  rw [crc_app, crc_app] at h
  have h1 := st8_inj _ _ (crc_inj m _ _ h)
  have h2 := congrArg (crc s l ^^^ ·) h1
  simp [← BitVec.xor_assoc] at h2
  exact by32_inj _ _ h2
end Go.Proofs.YtoaifodmjkhiiaaDoor.W
namespace Go.Proofs.YtoaifodmjkhiiaaDoor
set_option maxRecDepth 100000
open Go.RowKit
open W (B32)
/-- A sum as the model holds it. -/
abbrev u32 (x : B32) : Value := .int .u32 (x.toNat : Int)
theorem u32_of (a : Int) (h0 : 0 ≤ a) (h1 : a < 4294967296) : ∃ x : B32, a = (x.toNat : Int) := by
  refine ⟨BitVec.ofNat 32 a.toNat, ?_⟩
  simp; omega
theorem u32_lt (x : B32) : (0 : Int) ≤ (x.toNat : Int) ∧ (x.toNat : Int) < 4294967296 := ⟨by omega, by have := x.isLt; omega⟩
theorem u32_wrap (x : B32) : IntKind.u32.wrap (x.toNat : Int) = (x.toNat : Int) := by
  have := x.isLt
  simp [IntKind.wrap, IntKind.bits, IntKind.signed]; omega
theorem u32_back (x : B32) : BitVec.ofInt IntKind.u32.bits (x.toNat : Int) = x := by
  show BitVec.ofInt 32 (x.toNat : Int) = x
  simp
theorem u32_xor (x y : B32) : bits .xor .u32 (x.toNat : Int) (y.toNat : Int) = ((x ^^^ y).toNat : Int) := by
  unfold bits
  simp only [u32_back]
  exact u32_wrap (x ^^^ y)
theorem u32_and (x y : B32) : bits .and .u32 (x.toNat : Int) (y.toNat : Int) = ((x &&& y).toNat : Int) := by
  unfold bits
  simp only [u32_back]
  exact u32_wrap (x &&& y)
theorem u32_shr (x : B32) (n : Nat) : (x.toNat : Int) / 2 ^ n = ((x >>> n).toNat : Int) := by
  rw [BitVec.toNat_ushiftRight, Nat.shiftRight_eq_div_pow]
  norm_cast
theorem u32_byte (y : B32) (b : UInt8) : bits .xor .u32 (y.toNat : Int) (b.toNat : Int) = ((y ^^^ W.by32 b).toNat : Int) := by
  have h := u32_xor y (W.by32 b)
  have e : (W.by32 b).toNat = b.toNat := by have := b.toNat_lt; simp [W.by32]
  rw [e] at h
  exact h
theorem u32_odd (y : B32) : (y.toNat : Int).tmod 2 = if y.getLsbD 0 then 1 else 0 := by
  rw [Int.tmod_eq_emod_of_nonneg (by omega)]
  have e : y.getLsbD 0 = decide (y.toNat % 2 = 1) := by
    rw [BitVec.getLsbD, Nat.testBit_zero]
  rw [e]
  by_cases h : y.toNat % 2 = 1 <;> simp [h] <;> omega
theorem u32_half (y : B32) : (y.toNat : Int).tdiv 2 = ((y >>> 1).toNat : Int) := by
  rw [Int.tdiv_eq_ediv_of_nonneg (by omega)]
  exact u32_shr y 1
theorem u32_poly (y : B32) : bits .xor .u32 ((y >>> 1).toNat : Int) 3558460437 = (((y >>> 1) ^^^ W.poly).toNat : Int) := u32_xor (y >>> 1) W.poly
end Go.Proofs.YtoaifodmjkhiiaaDoor
/- HexM: Plain facts on hexadecimal figures. -/
namespace Go.Proofs.YtoaifodmjkhiiaaDoor.W
open Go.PlainAid (bt)

/-- The figure of a number below 16. -/
def hfI (x : Int) : Int := if x < 10 then 48 + x else 87 + x
theorem hfI_bd (x : Int) (h0 : 0 ≤ x) (h1 : x < 16) : 0 ≤ hfI x ∧ hfI x < 256 := by unfold hfI; split <;> omega
def hf (n : Nat) : UInt8 := UInt8.ofNat (hfI n).toNat
theorem hf_toNat (n : Nat) (h : n < 16) : ((hf n).toNat : Int) = hfI n := by
  have := hfI_bd n (by omega) (by omega)
  unfold hf; simp; omega
def hexL (l : List UInt8) : List UInt8 := l.flatMap fun b => [hf (b.toNat / 16), hf (b.toNat % 16)]
theorem hexL_len (l : List UInt8) : (hexL l).length = 2 * l.length := by
  induction l with
  | nil => rfl
  | cons b l ih => simp [hexL] at ih ⊢; omega
theorem hexL_snoc (l : List UInt8) (b : UInt8) : hexL (l ++ [b]) = hexL l ++ [hf (b.toNat / 16), hf (b.toNat % 16)] := by simp [hexL]

/-- The first k bytes of a text. -/
def firstK (s : ByteArray) (k : Nat) : List UInt8 := s.data.toList.take k
theorem firstK_len (s : ByteArray) (k : Nat) (h : k ≤ s.size) : (firstK s k).length = k := by
  have e : s.data.size = s.size := rfl
  simp [firstK]; omega
theorem firstK_all (s : ByteArray) (k : Nat) (h : s.size ≤ k) : firstK s k = s.data.toList := by
  have e : s.data.size = s.size := rfl
  unfold firstK; exact List.take_of_length_le (by simp; omega)
theorem firstK_step (s : ByteArray) (k : Nat) (h : k < s.size) : ∃ b : UInt8, firstK s (k + 1) = firstK s k ++ [b] ∧ bt s k = (b.toNat : Int) := by
  refine ⟨s[k], ?_, ?_⟩
  · unfold firstK; rw [List.take_succ_eq_append_getElem (by simpa using h)]; rfl
  · unfold bt; rw [dif_pos h]
end Go.Proofs.YtoaifodmjkhiiaaDoor.W
namespace Go.Proofs.YtoaifodmjkhiiaaDoor
set_option maxRecDepth 100000
open Go.RowKit
open Go.PlainAid (bt)
theorem bt_words (s : ByteArray) (k : Nat) : IntKind.i64.wrap (bt s k) = bt s k ∧ (bt s k).tdiv 16 = bt s k / 16 ∧ IntKind.i64.wrap (bt s k / 16) = bt s k / 16 ∧ (bt s k).tmod 16 = bt s k % 16 ∧ IntKind.i64.wrap (bt s k % 16) = bt s k % 16 := by
  have b0 := Go.PlainAid.bt_nonneg s k
  have b1 := Go.PlainAid.bt_le s k
  refine ⟨IntWalk.i64_in _ ⟨by omega, by omega⟩, Int.tdiv_eq_ediv_of_nonneg b0, IntWalk.i64_in _ ⟨by omega, by omega⟩, Int.tmod_eq_emod_of_nonneg b0, IntWalk.i64_in _ ⟨by omega, by omega⟩⟩
theorem bt_words8 (s : ByteArray) (k : Nat) : IntKind.u8.wrap (bt s k / 16) = bt s k / 16 ∧ IntKind.u8.wrap (bt s k % 16) = bt s k % 16 := by
  have b0 := Go.PlainAid.bt_nonneg s k
  have b1 := Go.PlainAid.bt_le s k
  exact ⟨IntWalk.u8_in _ ⟨by omega, by omega⟩, IntWalk.u8_in _ ⟨by omega, by omega⟩⟩
/-- A byte of a string. -/
theorem index_str (s : ByteArray) (k : Nat) (h : k < s.size) (w : World) :
    (Instr.index 9 (.string s) (.int .i64 (k : Int))).run Tryd.prog w = .ok (.int .u8 (bt s k)) w := by
  have hb := Go.PlainAid.get_bt s k h
  rw [run_index_string _ 9 s .i64 k Tryd.underlying9, dif_pos ⟨by omega, by omega⟩, ← hb]
  rfl
/-- Behind the two figures of byte k. -/
theorem hex_own {B k : Nat} {s : ByteArray} {w1 : World} {v' : Value} {x y : Int} (hk : k < s.size) (hx : x = W.hfI (bt s k / 16)) (hy : y = W.hfI (bt s k % 16))
    (h : w1.ownsRow B 5 1 v' (2 * k + 2) (bv (W.hexL (W.firstK s k)) ++ [.int .u8 x, .int .u8 y])) :
    w1.ownsRow B 5 1 v' (2 * (k + 1)) (bv (W.hexL (W.firstK s (k + 1)))) := by
  obtain ⟨b, hb, e⟩ := W.firstK_step s k hk
  have hlt := b.toNat_lt
  have e1 : Value.int .u8 x = .int .u8 ((W.hf (b.toNat / 16)).toNat : Int) := by
    rw [W.hf_toNat _ (by omega), hx, e]; congr 2
  have e2 : Value.int .u8 y = .int .u8 ((W.hf (b.toNat % 16)).toNat : Int) := by
    rw [W.hf_toNat _ (by omega), hy, e]; congr 2
  have e3 : bv (W.hexL (W.firstK s k)) ++ [.int .u8 x, .int .u8 y] = bv (W.hexL (W.firstK s (k + 1))) := by
    rw [hb, W.hexL_snoc, e1, e2]; simp [bv]
  rw [e3] at h
  exact h
end Go.Proofs.YtoaifodmjkhiiaaDoor
/- SumS: The walks of the sums over bytes. -/
namespace Go.Proofs.YtoaifodmjkhiiaaDoor
set_option maxRecDepth 100000
open Go.RowKit
open W (B32)
open Go.PlainAid (bt)
attribute [local go_sem ↓] Go.wp_at_zero Go.wp_at_succ

def sumTab : List Int := [0, 1166650509, 2333301018, 3466261911, 3189058079, 4221339282, 889615109, 1888477064, 3558460437, 2442158232, 1594529039, 444807554, 1779230218, 797264519, 3776954128, 2761298845]
/-- The table of the sums holds what the program's text lays. -/
abbrev SumTab (w : World) : Prop := Lib.TabIs Tryd.prog w "loop.example/g00197/impl.sumSteps" .u32 sumTab
theorem gSum : Tryd.prog.globalNamed "loop.example/g00197/impl.sumSteps" = some 0 := by kernel_rfl
theorem SumTab.stays {w w' : World} (h : SumTab w) (hb : Below w.heap.size w w') : SumTab w' := Joins.tab_stays gSum h hb (Nat.le_refl _)
theorem sum_cell {w : World} (h : SumTab w) (x : B32) : w.cell? ⟨0, (x &&& 15#32).toNat, none⟩ = some (u32 (W.st4 (x &&& 15#32))) := by
  have hn : (x &&& 15#32).toNat < 16 := by
    rw [BitVec.toNat_and]; exact Nat.lt_of_le_of_lt Nat.and_le_right (by decide)
  have hc := World.var?_cell gSum h (x &&& 15#32).toNat
  have e : W.tab (x &&& 15#32).toNat = (W.st4 (x &&& 15#32)).toNat := by
    unfold W.tab; rw [BitVec.ofNat_toNat]; simp
  have ht := congrArg (·[(x &&& 15#32).toNat]?) W.tab_all
  simp only [List.getElem?_map, List.getElem?_range hn, Option.map_some] at ht
  rw [hc, show u32 (W.st4 (x &&& 15#32)) = .int .u32 ((W.tab (x &&& 15#32).toNat : Nat) : Int) by rw [e]]
  generalize (x &&& 15#32).toNat = n at hn ht
  generalize W.tab n = m at ht
  match n, hn with
  | 0, _ | 1, _ | 2, _ | 3, _ | 4, _ | 5, _ | 6, _ | 7, _ | 8, _ | 9, _ | 10, _ | 11, _ | 12, _ | 13, _ | 14, _ | 15, _ => simp at ht; subst ht; rfl

theorem fourSteps_plain (a q v r : Int) (n : Nat) (w : World) (h1 : bits BinOp.and IntKind.u32 a 15 = (n : Int)) (h2 : a / 16 = q) (hn : (n : Int) < 16) (hc : w.cell? ⟨0, n, none⟩ = some (.int .u32 v))
    (h3 : bits BinOp.xor IntKind.u32 q v = r) : Calls Tryd.prog 91 #[.int .u32 a] w fun e w' => e = .returned (.int .u32 r) ∧ w' = w := by
  have hn0 : (0 : Int) ≤ (n : Int) := by omega
  go_enter Tryd.func91, Tryd.ntmps91
  go_wp2_with fail
  go_ret
  exact ⟨rfl, rfl⟩
theorem fourSteps (x : B32) (w : World) (h : SumTab w) :
    Calls Tryd.prog 91 #[u32 x] w fun e w' => e = .returned (u32 (W.st4 x)) ∧ w' = w := by
  have hx := u32_xor (x >>> 4) (W.st4 (x &&& 15#32))
  rw [← W.st4_low] at hx
  have hn : ((x &&& 15#32).toNat : Int) < 16 := by
    have : (x &&& 15#32).toNat < 16 := by
      rw [BitVec.toNat_and]; exact Nat.lt_of_le_of_lt Nat.and_le_right (by decide)
    omega
  exact fourSteps_plain _ _ _ _ _ w (u32_and x 15#32) (u32_shr x 4) hn (sum_cell h x) hx
set_option maxHeartbeats 1000000 in
theorem sumMore (x : B32) (s : ByteArray) (w : World) (h : SumTab w) (hs : s.size ≤ 1048576) :
    Calls Tryd.prog 90 #[u32 x, .string s] w fun e w' => e = .returned (u32 (W.crc x s.data.toList)) ∧ w' = w := by
  have HT : Hid (SumTab w) := h
  clear h
  go_enter Tryd.func90, Tryd.ntmps90
  go_wp2_with fail
  go_loop [0, 8] (fun v i => ∃ (k : Nat) (y : B32), v = u32 y ∧ i = .int .i64 k ∧ k ≤ s.size ∧ y = W.crc x (W.firstK s k)) (fun _ i => s.size - (intOf i).toNat)
  case atStart => exact ⟨0, x, rfl, rfl, Nat.zero_le _, by simp [W.firstK, W.crc]⟩
  case round =>
    obtain ⟨k, y, rfl, rfl, hk, hy⟩ := hrel
    have HY : Hid (y = W.crc x (W.firstK s k)) := hy
    clear hy
    by_cases hlt : k < s.size
    · obtain ⟨b, hb, hbt⟩ := W.firstK_step s k hlt
      have k0 : (0 : Int) ≤ (k : Int) := by omega
      have k1 : (k : Int) < (s.size : Int) := by omega
      have hix := index_str s k hlt
      rw [hbt] at hix
      have hbw : IntKind.u32.wrap (b.toNat : Int) = (b.toNat : Int) := by
        have := b.toNat_lt
        simp [IntKind.wrap, IntKind.bits, IntKind.signed]; omega
      obtain ⟨z, hz⟩ : ∃ z, z = y ^^^ W.by32 b := ⟨_, rfl⟩
      have hxor := u32_byte y b
      rw [← hz] at hxor
      have HB : Hid (W.firstK s (k + 1) = W.firstK s k ++ [b]) := hb
      have HZ : Hid (z = y ^^^ W.by32 b) := hz
      clear hb hz hbt
      go_wp2_with fail
      refine (fourSteps z _ HT.out).mono ?_
      rintro e w1 ⟨rfl, rfl⟩
      go_wp2_with fail
      refine (fourSteps _ _ HT.out).mono ?_
      rintro e w2 ⟨rfl, rfl⟩
      go_wp2_with fail
      go_round
      case rel => exact ⟨k + 1, W.st8 z, rfl, by go_num, by omega, by rw [HB.out, W.crc_snoc, HZ.out, HY.out]⟩
      case measure => simp [intOf]; omega
    · obtain rfl : y = W.crc x s.data.toList := by rw [HY.out, W.firstK_all s k (by omega)]
      go_wp2_with fail
      go_ret
      exact ⟨rfl, rfl⟩
set_option maxHeartbeats 1000000 in
theorem specMore (x : B32) (s : ByteArray) (w : World) (hs : s.size ≤ 1048576) :
    Calls Tryd.prog 65 #[u32 x, .string s] w fun e w' => e = .returned (u32 (W.crc x s.data.toList)) ∧ w' = w := by
  go_enter Tryd.func65, Tryd.ntmps65
  go_wp2_with fail
  go_loop [0, 5] (fun v i => ∃ (k : Nat) (y : B32), v = u32 y ∧ i = .int .i64 k ∧ k ≤ s.size ∧ y = W.crc x (W.firstK s k)) (fun _ i => s.size - (intOf i).toNat)
  case atStart => exact ⟨0, x, rfl, rfl, Nat.zero_le _, by simp [W.firstK, W.crc]⟩
  case round =>
    obtain ⟨k, y, rfl, rfl, hk, hy⟩ := hrel
    have HY : Hid (y = W.crc x (W.firstK s k)) := hy
    clear hy
    by_cases hlt : k < s.size
    · obtain ⟨b, hb, hbt⟩ := W.firstK_step s k hlt
      have k0 : (0 : Int) ≤ (k : Int) := by omega
      have k1 : (k : Int) < (s.size : Int) := by omega
      have hix := index_str s k hlt
      rw [hbt] at hix
      have hbw : IntKind.u32.wrap (b.toNat : Int) = (b.toNat : Int) := by
        have := b.toNat_lt
        simp [IntKind.wrap, IntKind.bits, IntKind.signed]; omega
      obtain ⟨z, hz⟩ : ∃ z, z = y ^^^ W.by32 b := ⟨_, rfl⟩
      have hxor := u32_byte y b
      rw [← hz] at hxor
      have HB : Hid (W.firstK s (k + 1) = W.firstK s k ++ [b]) := hb
      have HZ : Hid (z = y ^^^ W.by32 b) := hz
      clear hb hz hbt
      go_wp2_with fail
      go_loop [0, 6] (fun v i => ∃ (j : Nat) (y : B32), v = u32 y ∧ i = .int .i64 j ∧ j ≤ 8 ∧ y = W.stN j z) (fun _ i => 8 - (intOf i).toNat)
      case atStart => exact ⟨0, z, rfl, rfl, Nat.zero_le _, rfl⟩
      case round =>
        obtain ⟨j, y1, rfl, rfl, hj, hy1⟩ := hrel
        have HY1 : Hid (y1 = W.stN j z) := hy1
        clear hy1
        by_cases hj8 : j < 8
        · have hhalf := u32_half y1
          have hodd := u32_odd y1
          have hpoly := u32_poly y1
          obtain ⟨z1, hz1⟩ : ∃ z1, z1 = y1 >>> 1 := ⟨_, rfl⟩
          rw [← hz1] at hhalf hpoly
          have j8 : (j : Int) < 8 := by omega
          have w1 := u32_wrap z1
          by_cases ho : y1.getLsbD 0 = true
          · rw [if_pos ho] at hodd
            have e : W.st y1 = z1 ^^^ W.poly := by unfold W.st; rw [if_pos ho, hz1]
            rw [← e] at hpoly
            have HE : Hid _ := e
            have HZ1 : Hid _ := hz1
            clear e hz1 ho
            go_wp2_with fail
            go_round
            case rel => exact ⟨j + 1, W.st y1, rfl, by go_num, by omega, by rw [HY1.out]; rfl⟩
            case measure => simp [intOf]; omega
          · rw [if_neg ho] at hodd
            have e : W.st y1 = z1 := by unfold W.st; rw [if_neg ho, hz1]; simp
            have HE : Hid _ := e
            have HZ1 : Hid _ := hz1
            clear e hz1 ho hpoly
            go_wp2_with fail
            go_round
            case rel => exact ⟨j + 1, z1, rfl, by go_num, by omega, by rw [← HE.out, HY1.out]; rfl⟩
            case measure => simp [intOf]; omega
        · obtain rfl : j = 8 := by omega
          go_wp2_with fail
          go_round
          case rel => exact ⟨k + 1, y1, rfl, by go_num, by omega, by rw [HB.out, W.crc_snoc, HY1.out, HZ.out, HY.out, W.st8_N]⟩
          case measure => simp [intOf]; omega
    · obtain rfl : y = W.crc x s.data.toList := by rw [HY.out, W.firstK_all s k (by omega)]
      go_wp2_with fail
      go_ret
      exact ⟨rfl, rfl⟩
theorem implSumMore (x : B32) (s : ByteArray) (w : World) (h : SumTab w) (hs : s.size ≤ 1048576) :
    Calls Tryd.prog 89 #[u32 x, .string s] w fun e w' => e = .returned (u32 (W.crc x s.data.toList)) ∧ w' = w := by
  have HT : Hid (SumTab w) := h
  clear h
  have hw := u32_wrap x
  go_enter Tryd.func89, Tryd.ntmps89
  go_wp2_with fail
  refine (sumMore x s _ HT.out hs).mono ?_
  rintro e w1 ⟨rfl, rfl⟩
  go_wp2_with fail
  go_ret
  exact ⟨rfl, rfl⟩
/-- The sum of a text. -/
def _root_.Go.Proofs.YtoaifodmjkhiiaaDoor.W.sumOf (s : ByteArray) : B32 := W.crc 4294967295#32 s.data.toList
theorem implSumOf (s : ByteArray) (w : World) (h : SumTab w) (hs : s.size ≤ 1048576) :
    Calls Tryd.prog 85 #[.string s] w fun e w' => e = .returned (u32 (W.sumOf s)) ∧ w' = w := by
  have HT : Hid (SumTab w) := h
  clear h
  go_enter Tryd.func85, Tryd.ntmps85
  go_wp2_with fail
  refine (implSumMore 4294967295#32 s _ HT.out hs).mono ?_
  rintro e w1 ⟨rfl, rfl⟩
  go_wp2_with fail
  go_ret
  exact ⟨rfl, rfl⟩
theorem specSumOf (s : ByteArray) (w : World) (hs : s.size ≤ 1048576) :
    Calls Tryd.prog 50 #[.string s] w fun e w' => e = .returned (u32 (W.sumOf s)) ∧ w' = w := by
  go_enter Tryd.func50, Tryd.ntmps50
  go_wp2_with fail
  refine (specMore 4294967295#32 s _ hs).mono ?_
  rintro e w1 ⟨rfl, rfl⟩
  go_wp2_with fail
  go_ret
  exact ⟨rfl, rfl⟩
end Go.Proofs.YtoaifodmjkhiiaaDoor
/- UnM: Hosts and units, plain: what each function of the chapter answers. -/
namespace Go.Proofs.YtoaifodmjkhiiaaDoor
set_option maxRecDepth 100000
open Go.RowKit

/-- A host. -/
structure HM where
  id : Int
  up : Bool
  us : List UnM
instance : Inhabited HM := ⟨⟨0, false, []⟩⟩
/-- The sum of a text, as a number. -/
def sumN (t : ByteArray) : Int := ((W.sumOf t).toNat : Int)
/-- One unit ahead of another. -/
def unLt (a b : UnM) : Bool := decide (a.group < b.group) || (a.group == b.group && decide (a.index < b.index))
def unOne (u : UnM) : Bool := inI u.group 1 100000 && inI u.index 0 5 && decide (u.text.size ≤ 200) && inI u.sum 0 4294967295
def unAt (L : List UnM) (k : Nat) : Bool := unOne (L.getD k default) && (decide (k = 0) || unLt (L.getD (k - 1) default) (L.getD k default))
def unitsOk (L : List UnM) : Bool := (List.range L.length).all (unAt L)
def hostOk (h : HM) : Bool := unitsOk h.us && inI h.id 1 7
def unIdx (L : List UnM) (g i : Int) : Nat := L.findIdx fun u => u.group == g && u.index == i
def putL (L : List UnM) (u : UnM) : List UnM := L.filter (unLt · u) ++ [u] ++ L.filter (unLt u ·)
def summed (u : UnM) : UnM := ⟨u.group, u.index, u.text, sumN u.text⟩
def putX (h : HM) (u : UnM) : HM × Bool :=
  if hostOk h && h.up && hostOk ⟨h.id, h.up, putL h.us (summed u)⟩ then (⟨h.id, h.up, putL h.us (summed u)⟩, true) else (h, false)
def unSound (u : UnM) : Bool := u.sum == sumN u.text
def getX (h : HM) (g i : Int) : ByteArray × Bool :=
  if h.up && decide (unIdx h.us g i < h.us.length) && unSound (h.us.getD (unIdx h.us g i) default) then ((h.us.getD (unIdx h.us g i) default).text, true) else (⟨#[]⟩, false)
def dropU (h : HM) (g i : Int) : HM × Bool :=
  if unIdx h.us g i < h.us.length then (⟨h.id, h.up, h.us.take (unIdx h.us g i) ++ h.us.drop (unIdx h.us g i + 1)⟩, true) else (h, false)
/-- A text with one byte turned. -/
def turnAt (t : ByteArray) (i : Nat) : ByteArray := ⟨(t.data.toList.set i ((t.data.toList.getD i 0) ^^^ 1)).toArray⟩
def spoilX (h : HM) (g i at9 : Int) : HM × Bool :=
  if decide (unIdx h.us g i < h.us.length) && decide (0 ≤ at9) && !((h.us.getD (unIdx h.us g i) default).text.toList == []) && unSound (h.us.getD (unIdx h.us g i) default) then
    (⟨h.id, h.up, h.us.set (unIdx h.us g i) ⟨(h.us.getD (unIdx h.us g i) default).group, (h.us.getD (unIdx h.us g i) default).index, turnAt (h.us.getD (unIdx h.us g i) default).text (at9.toNat % (h.us.getD (unIdx h.us g i) default).text.size), (h.us.getD (unIdx h.us g i) default).sum⟩⟩, true)
  else (h, false)
end Go.Proofs.YtoaifodmjkhiiaaDoor
/- StrsA: Slices of strings: how they are held against each other. -/
namespace Go.Proofs.YtoaifodmjkhiiaaDoor
set_option maxRecDepth 100000
open Go.RowKit

theorem drewN_two (w : World) (a b : Nat) : (w.drewN a).drewN b = w.drewN (a + b) := by simp [World.drewN, Nat.add_assoc]
/-- A slice of strings, as it reads. -/
def SRow (w : World) (a : Option Addr) (xs : List ByteArray) : Prop :=
  0 < xs.length → ∃ g, a = some ⟨g, 0, none⟩ ∧ g < w.heap.size ∧ ∀ j, j < xs.length → w.cell? ⟨g, j, none⟩ = some (.string (xs.getD j ⟨#[]⟩))

def eqS (xs ys : List ByteArray) : Bool := decide (xs = ys)
theorem eqS_len (xs ys : List ByteArray) (h : xs.length ≠ ys.length) : eqS xs ys = false := by
  unfold eqS; rw [decide_eq_false]; intro e; rw [e] at h; exact h rfl
/-- The first k are the same. -/
def sameTo (xs ys : List ByteArray) (k : Nat) : Prop := ∀ j, j < k → xs.getD j ⟨#[]⟩ = ys.getD j ⟨#[]⟩
theorem eqS_yes (xs ys : List ByteArray) (h : xs.length = ys.length) (hs : sameTo xs ys xs.length) : eqS xs ys = true := by
  unfold eqS; rw [decide_eq_true]
  apply List.ext_getElem h
  intro j h1 h2
  have := hs j h1
  simpa [List.getD, h1, h2] using this
theorem eqS_no (xs ys : List ByteArray) (k : Nat) (h : xs.getD k ⟨#[]⟩ ≠ ys.getD k ⟨#[]⟩) : eqS xs ys = false := by
  unfold eqS; rw [decide_eq_false]; intro e; rw [e] at h; exact h rfl
theorem sameTo_step (xs ys : List ByteArray) (k : Nat) (h : sameTo xs ys k) (hk : xs.getD k ⟨#[]⟩ = ys.getD k ⟨#[]⟩) : sameTo xs ys (k + 1) := by
  intro j hj
  by_cases e : j = k
  · subst e; exact hk
  · exact h j (by omega)

set_option maxHeartbeats 400000 in
theorem eqStringS_any (a b : Option Addr) (xs ys : List ByteArray) (ca cb : Nat) (w : World) (ha : SRow w a xs) (hb : SRow w b ys) (hn : xs.length ≤ 100000000) (hm : ys.length ≤ 100000000) :
    Calls Tryd.prog 10 #[.slice a xs.length ca, .slice b ys.length cb] w fun e w' => e = .returned (.bool (eqS xs ys)) ∧ ∃ q, w' = w.drewN q := by
  obtain ⟨n, hnx⟩ : ∃ n, n = xs.length := ⟨_, rfl⟩
  obtain ⟨m, hmy⟩ : ∃ m, m = ys.length := ⟨_, rfl⟩
  have HN : Hid (n = xs.length) := hnx
  have HM : Hid (m = ys.length) := hmy
  rw [← hnx, ← hmy]
  rw [← hnx] at hn
  rw [← hmy] at hm
  clear hnx hmy
  by_cases h : n = m
  · subst h
    have hd : (((n : Int) != (n : Int))) = false := by simp
    go_enter Tryd.func10, Tryd.ntmps10
    go_wp2_with fail
    go_loopw [5] (fun i wr => ∃ (k q : Nat), i = .int .i64 k ∧ k ≤ n ∧ sameTo xs ys k ∧ wr = w.drewN q) (fun i _ => n - (intOf i).toNat)
    case atStart => exact ⟨0, 0, rfl, Nat.zero_le _, fun j hj => by omega, rfl⟩
    case round =>
      obtain ⟨k, q, rfl, hk, hs, rfl⟩ := hrel
      by_cases hlt : k < n
      · obtain ⟨g, rfl, _, hc⟩ := ha (by have := HN.out; omega)
        obtain ⟨g', rfl, _, hc'⟩ := hb (by have := HM.out; omega)
        have c1 := hc k (by have := HN.out; omega)
        have c2 := hc' k (by have := HM.out; omega)
        have k0 : (0 : Int) ≤ (k : Int) := by omega
        have k1 : (k : Int) < (n : Int) := by omega
        obtain ⟨x, hx⟩ : ∃ x, x = xs.getD k ⟨#[]⟩ := ⟨_, rfl⟩
        obtain ⟨y, hy⟩ : ∃ y, y = ys.getD k ⟨#[]⟩ := ⟨_, rfl⟩
        rw [← hx] at c1
        rw [← hy] at c2
        have HX : Hid _ := hx
        have HY : Hid _ := hy
        clear hx hy hc hc'
        by_cases hxy : x = y
        · have hst := sameTo_step xs ys k hs (by rw [← HX.out, ← HY.out]; exact hxy)
          subst hxy
          go_wp2_with fail
          go_quiet (fail)
          go_wp2_with fail
          go_roundw
          case rel => exact ⟨k + 1, q + nq, by go_num, by omega, hst, rfl⟩
          case measure => simp [intOf]; omega
        · have hbn : (x.toList == y.toList) = false := by
            rw [beq_eq_false_iff_ne]; intro e; apply hxy
            rw [Go.ByteArray.toList_eq, Go.ByteArray.toList_eq] at e
            exact Go.WideShapes.bytes_inj e
          have HE : Hid (eqS xs ys = false) := eqS_no xs ys k (by rw [← HX.out, ← HY.out]; exact hxy)
          go_wp2_with fail
          go_quiet (fail)
          go_wp2_with fail
          go_ret
          exact ⟨by rw [HE.out]; rfl, q + nq, drewN_two _ _ _⟩
      · have HE : Hid (eqS xs ys = true) := eqS_yes xs ys (by rw [← HN.out, ← HM.out]) (by rw [show xs.length = k from by have := HN.out; omega]; exact hs)
        go_wp2_with fail
        go_ret
        exact ⟨by rw [HE.out]; rfl, q, rfl⟩
  · have HE : Hid (eqS xs ys = false) := eqS_len xs ys (by rw [← HN.out, ← HM.out]; exact h)
    have hd : (((n : Int) != (m : Int))) = true := by rw [bne_iff_ne]; omega
    go_enter Tryd.func10, Tryd.ntmps10
    go_wp2_with fail
    go_ret
    exact ⟨by rw [HE.out]; rfl, 0, rfl⟩
end Go.Proofs.YtoaifodmjkhiiaaDoor
/- DecM: Plain facts on figures: 'dg n' are the figures of n (none of 0), 'decS n' those that Decimal writes; the two ways of reading them back are one. -/
namespace Go.Proofs.YtoaifodmjkhiiaaDoor.W

def dgF : Nat → Nat → List UInt8
  | 0, _ => []
  | f + 1, n => if n = 0 then [] else dgF f (n / 10) ++ [UInt8.ofNat (48 + n % 10)]
def dg (n : Nat) : List UInt8 := dgF n n
theorem dgF_enough : ∀ (f g n : Nat), n ≤ f → n ≤ g → dgF f n = dgF g n
  | 0, 0, _, _, _ => rfl
  | 0, g + 1, n, h, _ => by have : n = 0 := (by omega); subst this; simp [dgF]
  | f + 1, 0, n, _, h => by have : n = 0 := (by omega); subst this; simp [dgF]
  | f + 1, g + 1, n, h1, h2 => by
    unfold dgF
    by_cases h : n = 0
    · rw [if_pos h, if_pos h]
    · rw [if_neg h, if_neg h, dgF_enough f g (n / 10) (by omega) (by omega)]
theorem dg_zero : dg 0 = [] := rfl
theorem dg_step (n : Nat) (h : 0 < n) : dg n = dg (n / 10) ++ [UInt8.ofNat (48 + n % 10)] := by
  unfold dg
  match n, h with
  | k + 1, _ => rw [dgF, if_neg (by omega), dgF_enough k ((k + 1) / 10) ((k + 1) / 10) (by omega) (by omega)]
def decS (n : Nat) : List UInt8 := if n = 0 then [48] else dg n
theorem dg_len : ∀ (k n : Nat), n < 10 ^ k → (dg n).length ≤ k
  | 0, n, h => by have : n = 0 := (by simpa using h); subst this; simp [dg_zero]
  | k + 1, n, h => by
    by_cases hn : n = 0
    · subst hn; simp [dg_zero]
    · rw [dg_step n (by omega)]
      have := dg_len k (n / 10) (by rw [Nat.pow_succ] at h; omega)
      simp; omega
/-- No figures begin with a nought. -/
theorem dg_head : ∀ (f n : Nat), n ≤ f → (dg n).head? ≠ some 48
  | 0, n, h => by have : n = 0 := (by omega); subst this; simp [dg_zero]
  | f + 1, n, h => by
    by_cases hn : n = 0
    · subst hn; simp [dg_zero]
    · rw [dg_step n (by omega)]
      by_cases h10 : n / 10 = 0
      · rw [h10, dg_zero]
        simp
        intro e
        have := congrArg UInt8.toNat e
        simp at this
        omega
      · have ih := dg_head f (n / 10) (by omega)
        have hne : dg (n / 10) ≠ [] := by rw [dg_step _ (by omega)]; simp
        cases hc : dg (n / 10) with
        | nil => exact absurd hc hne
        | cons a r => rw [hc] at ih; simpa using ih

abbrev isFig (c : UInt8) : Prop := 48 ≤ c.toNat ∧ c.toNat ≤ 57
def numV (l : List UInt8) : Nat := l.foldl (fun n c => 10 * n + (c.toNat - 48)) 0
theorem numV_snoc (l : List UInt8) (c : UInt8) : numV (l ++ [c]) = 10 * numV l + (c.toNat - 48) := by simp [numV]
theorem foldl_le (l : List UInt8) : ∀ n : Nat, n ≤ l.foldl (fun n c => 10 * n + (c.toNat - 48)) n := by
  induction l with
  | nil => intro n; simp
  | cons c l ih => intro n; simp only [List.foldl_cons]; have := ih (10 * n + (c.toNat - 48)); omega
theorem numV_app (l r : List UInt8) : numV l ≤ numV (l ++ r) := by
  unfold numV; rw [List.foldl_append]; exact foldl_le r _
theorem numV_bd : ∀ (l : List UInt8) (n : Nat), (∀ c ∈ l, isFig c) → l.foldl (fun n c => 10 * n + (c.toNat - 48)) n + 1 ≤ (n + 1) * 10 ^ l.length
  | [], n, _ => by simp
  | c :: l, n, h => by
    have hc := h c (by simp)
    have := numV_bd l (10 * n + (c.toNat - 48)) (fun x hx => h x (by simp [hx]))
    simp only [List.foldl_cons, List.length_cons, Nat.pow_succ]
    have h2 : (10 * n + (c.toNat - 48) + 1) * 10 ^ l.length ≤ ((n + 1) * 10) * 10 ^ l.length := Nat.mul_le_mul_right _ (by unfold isFig at hc; omega)
    have h3 : (n + 1) * 10 * 10 ^ l.length = (n + 1) * (10 ^ l.length * 10) := by rw [Nat.mul_assoc, Nat.mul_comm 10]
    omega
theorem numV_lt (l : List UInt8) (h : ∀ c ∈ l, isFig c) : numV l < 10 ^ l.length := by
  have := numV_bd l 0 h
  unfold numV; omega

/-- What ReadDecimal answers. -/
def rdS (l : List UInt8) : Option Nat :=
  if l.length ≤ 10 ∧ (∀ c ∈ l, isFig c) ∧ numV l ≤ 1000000000 ∧ decS (numV l) = l then some (numV l) else none

theorem rdS_no (l : List UInt8) (h : ¬ (l.length ≤ 10 ∧ (∀ c ∈ l, isFig c) ∧ numV l ≤ 1000000000 ∧ decS (numV l) = l)) : rdS l = none := by
  unfold rdS; rw [if_neg h]
theorem rdS_yes (l : List UInt8) (h1 : l.length ≤ 10) (h2 : ∀ c ∈ l, isFig c) (h3 : numV l ≤ 1000000000) (h4 : decS (numV l) = l) : rdS l = some (numV l) := by
  unfold rdS; rw [if_pos ⟨h1, h2, h3, h4⟩]
theorem rdS_nil : rdS [] = none := rdS_no _ (by rintro ⟨_, _, _, h⟩; simp [numV, decS] at h)
theorem rdS_bad (p r : List UInt8) (c : UInt8) (h : ¬ isFig c) : rdS (p ++ c :: r) = none := rdS_no _ (fun x => h (x.2.1 c (by simp)))
theorem rdS_great (p r : List UInt8) (h : 1000000000 < numV p) : rdS (p ++ r) = none := rdS_no _ (fun x => by have := numV_app p r; have := x.2.2.1; omega)
theorem rdS_nought (r : List UInt8) (h : r ≠ []) : rdS (48 :: r) = none := rdS_no _ (fun x => by
  have h4 := x.2.2.2
  unfold decS at h4
  split at h4
  · simp at h4; exact h h4
  · have := dg_head _ _ (Nat.le_refl (numV (48 :: r)))
    rw [h4] at this
    simp at this)

/-- Figures read so far, with no needless nought. -/
def good (p : List UInt8) : Prop := (∀ c ∈ p, isFig c) ∧ (p = [] ∨ p = [48] ∨ (0 < numV p ∧ dg (numV p) = p))
theorem good_nil : good [] := ⟨fun _ h => by simp at h, .inl rfl⟩
theorem fig_byte (c : UInt8) (h : isFig c) : UInt8.ofNat (48 + (c.toNat - 48)) = c := by
  unfold isFig at h
  have : 48 + (c.toNat - 48) = c.toNat := by omega
  rw [this]; simp
theorem good_step (p : List UInt8) (c : UInt8) (hp : good p) (hc : isFig c) (h0 : p = [] ∨ 0 < numV p) : good (p ++ [c]) := by
  have h0c : (∀ x ∈ p ++ [c], isFig x) := by
    intro x hx
    rcases List.mem_append.1 hx with h | h
    · exact hp.1 x h
    · simp at h; subst h; exact hc
  refine ⟨h0c, ?_⟩
  have hd : dg (numV p) = p := by
    rcases hp.2 with h | h | h
    · subst h; rfl
    · subst h; rcases h0 with h | h
      · simp at h
      · simp [numV] at h
    · exact h.2
  by_cases hz : numV (p ++ [c]) = 0
  · rw [numV_snoc] at hz
    have hp0 : p = [] := by
      rcases h0 with h | h
      · exact h
      · omega
    right; left
    subst hp0
    have : c.toNat = 48 := by unfold isFig at hc; omega
    have e : c = 48 := UInt8.toNat_inj.1 (by simpa using this)
    rw [e]; rfl
  · right; right
    refine ⟨by omega, ?_⟩
    have hlt : c.toNat - 48 < 10 := by unfold isFig at hc; omega
    rw [dg_step _ (by omega), numV_snoc]
    have e1 : (10 * numV p + (c.toNat - 48)) / 10 = numV p := by omega
    have e2 : (10 * numV p + (c.toNat - 48)) % 10 = c.toNat - 48 := by omega
    rw [e1, e2, hd, fig_byte c hc]
theorem good_yes (p : List UInt8) (hp : good p) (hne : p ≠ []) (h : numV p ≤ 1000000000) : rdS p = some (numV p) := by
  have h4 : decS (numV p) = p := by
    rcases hp.2 with e | e | e
    · exact absurd e hne
    · subst e; rfl
    · unfold decS; rw [if_neg (by omega)]; exact e.2
  refine rdS_yes p ?_ hp.1 h h4
  rcases hp.2 with e | e | e
  · subst e; simp
  · subst e; simp
  · rw [← e.2]; exact dg_len 10 _ (by omega)
theorem good_again (p r : List UInt8) (hp : good p) (hne : p ≠ []) (hr : r ≠ []) (h : numV p = 0) : rdS (p ++ r) = none := by
  rcases hp.2 with e | e | e
  · exact absurd e hne
  · subst e; exact rdS_nought r hr
  · omega
end Go.Proofs.YtoaifodmjkhiiaaDoor.W
/- Dec: The walks of the models' Decimal, and of the two ReadDecimal. -/
namespace Go.Proofs.YtoaifodmjkhiiaaDoor
set_option maxRecDepth 100000
open Go.RowKit
open Go.PlainAid (bt)

/-- The text of one byte. -/
def oneB (c : Int) : ByteArray := ⟨#[UInt8.ofNat c.toNat]⟩
theorem oneB_size (c : Int) : (oneB c).size = 1 := rfl
/-- 'string([]byte{c})'. -/
theorem one_byte (W : World) (c : Int) (h0 : 0 ≤ c) (h1 : c < 256) :
    (convert 38 9 (.slice (some ⟨W.heap.size, 0, none⟩) 1 1)).run Tryd.prog (W.alloc (.cells #[.int .u8 c] 5)) =
      .ok (.string (oneB c)) (W.alloc (.cells #[.int .u8 c] 5)) := by
  have := run_convert_bytes_back (P := Tryd.prog) (W.alloc (.cells #[.int .u8 c] 5)) 38 9 5 ⟨W.heap.size, 0, none⟩ 1 [UInt8.ofNat c.toNat] Tryd.underlying38 Tryd.underlying5 Tryd.underlying9
    (fun j hj => by
      have : j = 0 := by simp at hj; omega
      subst this
      have e := byte_of c h0 h1
      rw [e]
      exact cell_one_new W _ _ 0 _ rfl)
  simpa [oneB] using this

theorem dg_more {n m : Nat} {s : ByteArray} (hm : 0 < m) (h : W.dg m ++ s.data.toList = W.dg n) (c : Int) (hc : c = 48 + ((m % 10 : Nat) : Int)) :
    W.dg (m / 10) ++ (oneB c ++ s).data.toList = W.dg n := by
  rw [← h, W.dg_step m hm]
  have e : UInt8.ofNat c.toNat = UInt8.ofNat (48 + m % 10) := by rw [hc]; congr 1
  unfold oneB
  rw [e]
  simp

theorem neg_words (m : Nat) (h : m ≤ 9223372036854775808) : (-(m : Int)).tmod 10 = -((m : Int) % 10) ∧ (-(m : Int)).tdiv 10 = -((m : Int) / 10) := by
  rw [Int.neg_tmod, Int.neg_tdiv, Int.tmod_eq_emod_of_nonneg (by omega), Int.tdiv_eq_ediv_of_nonneg (by omega)]
  exact ⟨rfl, rfl⟩

end Go.Proofs.YtoaifodmjkhiiaaDoor
/- StrsB: Slices of strings: marks that are laid into one, and found again. -/
namespace Go.Proofs.YtoaifodmjkhiiaaDoor
set_option maxRecDepth 100000
open Go.RowKit
attribute [local go_sem ↓] Go.wp_at_zero Go.wp_at_succ

/-- The text of a mark. -/
def mt (k : Nat) : ByteArray := (⟨#[109]⟩ : ByteArray) ++ ⟨(W.decS k).toArray⟩

set_option maxHeartbeats 400000 in
theorem markText_any (n : Nat) (w : World) (hn : 0 < n) (hm : n ≤ 1000000000) :
    Calls Tryd.prog 34 #[.int .i64 n] w fun e w' => e = .returned (.string (mt n)) ∧ Below w.heap.size w w' := by
  have h0 : decide ((n : Int) ≤ 0) = false := by simp; omega
  have hl := W.dg_len 20 n (by omega)
  go_enter Tryd.func34, Tryd.ntmps34
  go_wp2_with fail
  go_loopw [0, 3] (fun i v wr => ∃ (m : Nat) (s : ByteArray), i = .int .i64 m ∧ v = .string s ∧ m ≤ n ∧ W.dg m ++ s.data.toList = W.dg n ∧ Below w.heap.size w wr) (fun i _ _ => (intOf i).toNat)
  case atStart => exact ⟨n, ⟨#[]⟩, rfl, rfl, Nat.le_refl _, by simp, Below.refl _ _⟩
  case round =>
    obtain ⟨m, s, rfl, rfl, hmn, hs, hb⟩ := hrel
    have HS : Hid (W.dg m ++ s.data.toList = W.dg n) := hs
    have hsz : s.size ≤ 20 := by have := congrArg List.length hs; simp at this; have e : s.data.size = s.size := rfl; omega
    clear hs
    by_cases hz : m = 0
    · subst hz
      have hst : mt n = (⟨#[109]⟩ : ByteArray) ++ s := by
        have := HS.out
        rw [W.dg_zero, List.nil_append] at this
        unfold mt W.decS
        rw [if_neg (by omega), ← this]
      have HT : Hid _ := hst
      clear hst
      go_wp2_with fail
      go_ret
      refine ⟨?_, hb⟩
      rw [HT.out]
      rfl
    · have hp : 0 < m := by omega
      have hB := hb.size
      have ho := oneB_size (48 + (m : Int) % 10)
      have hcv := one_byte wr (48 + (m : Int) % 10) (by omega) (by omega)
      go_wp2_with fail
      go_roundw
      case rel => exact ⟨m / 10, _, by go_num, rfl, by omega, dg_more hp HS.out _ (by omega), hb.alloc hB _⟩
      case measure => simp [intOf]; omega
theorem markText_int (x : Int) (w : World) (h0 : 0 < x) (h1 : x ≤ 1000000000) :
    Calls Tryd.prog 34 #[.int .i64 x] w fun e w' => e = .returned (.string (mt x.toNat)) ∧ Below w.heap.size w w' := by
  obtain ⟨n, rfl⟩ := Int.eq_ofNat_of_zero_le (Int.le_of_lt h0)
  exact markText_any n w (by omega) (by omega)

/-- Marks from k on. -/
def marks (k n : Nat) : List ByteArray := (List.range n).map fun j => mt (k + j)
theorem marks_len (k n : Nat) : (marks k n).length = n := by simp [marks]
theorem marks_at (k n j : Nat) (h : j < n) : (marks k n).getD j ⟨#[]⟩ = mt (k + j) := by simp [marks, List.getD, h]

set_option maxHeartbeats 400000 in
theorem heldStringS_any (a : Option Addr) (k n ca : Nat) (w : World) (ha : SRow w a (marks k n)) (hk : 0 < k) (hn : k + n ≤ 100000000) :
    Calls Tryd.prog 16 #[.slice a n ca, .int .i64 k] w fun e w' => e = .returned (.int .i64 (k + n : Nat)) ∧ Below w.heap.size w w' := by
  go_enter Tryd.func16, Tryd.ntmps16
  go_wp2_with fail
  go_loopw [1, 5] (fun c i wr => ∃ (j : Nat), i = .int .i64 j ∧ c = .int .i64 (k + j : Nat) ∧ j ≤ n ∧ Below w.heap.size w wr) (fun _ i _ => n - (intOf i).toNat)
  case atStart => exact ⟨0, rfl, rfl, Nat.zero_le _, Below.refl _ _⟩
  case round =>
    obtain ⟨j, rfl, rfl, hj, hb⟩ := hrel
    have hB := hb.size
    by_cases hlt : j < n
    · obtain ⟨g, rfl, hg, hc⟩ := ha (by rw [marks_len]; omega)
      have c1 := hc j (by rw [marks_len]; omega)
      rw [marks_at k n j hlt, ← hb.cell (p := ⟨g, j, none⟩) hg] at c1
      have j0 : (0 : Int) ≤ (j : Int) := by omega
      have j1 : (j : Int) < (n : Int) := by omega
      clear hc
      go_wp2_with fail
      go_region_held3 (fun w' => w'.cell? ⟨g, j, none⟩ = some (.string (mt (k + j)))) (first | go_keep | (rw [hb1.cell (p := ⟨g, j, none⟩) (by simp; omega)]; assumption)) ((go_at_call 34; refine (markText_any (k + j) _ ?_ ?_).mono ?_; (omega); (omega); rintro e w1 ⟨rfl, hb1⟩))
      all_goals go_wp2_with fail
      exact ⟨⟨j + 1, by go_num, congrArg (Value.int .i64) (by omega), by omega, hb.trans ((Below.drew (Below.refl _ _)).trans (hb1.mono hB))⟩, by simp [intOf]; omega⟩
    · have e : j = n := by omega
      subst e
      go_wp2_with fail
      go_ret
      exact ⟨rfl, hb⟩

/-- A row of strings that may be written. -/
def WRow (w : World) (g : Nat) (xs : List ByteArray) : Prop :=
  g < w.heap.size ∧ ∀ j, j < xs.length → w.cell? ⟨g, j, none⟩ = some (.string (xs.getD j ⟨#[]⟩)) ∧ w.frozen? ⟨g, j, none⟩ = false
theorem WRow.srow {w : World} {g : Nat} {xs : List ByteArray} (h : WRow w g xs) : SRow w (some ⟨g, 0, none⟩) xs := fun _ => ⟨g, rfl, h.1, fun j hj => (h.2 j hj).1⟩
theorem WRow.below {w w' : World} {g B : Nat} {xs : List ByteArray} (h : WRow w g xs) (hb : Below B w w') (hg : g < B) : WRow w' g xs :=
  ⟨Nat.lt_of_lt_of_le h.1 hb.size, fun j hj => ⟨(hb.cell (p := ⟨g, j, none⟩) hg).trans (h.2 j hj).1, (hb.frozen (p := ⟨g, j, none⟩) hg).trans (h.2 j hj).2⟩⟩
theorem WRow.set {w : World} {g : Nat} {xs : List ByteArray} (h : WRow w g xs) (i : Nat) (x : ByteArray) (hi : i < xs.length) : WRow (w.setCell ⟨g, i, none⟩ (.string x)) g (xs.set i x) := by
  refine ⟨by have := h.1; simpa [World.setCell] using this, fun j hj => ?_⟩
  rw [List.length_set] at hj
  refine ⟨?_, (World.frozen?_setCell _ _ _ _).trans (h.2 j hj).2⟩
  by_cases e : j = i
  · subst e
    rw [World.cell?_setCell_same _ _ _ (h.2 j hj).1]
    simp [List.getD, hi]
  · rw [World.cell?_setCell_other _ _ _ _ (by first | (simp; done) | (simp; omega)), (h.2 j hj).1]
    simp [List.getD, Ne.symm e]
theorem grownBy_setCell (w : World) (g i : Nat) (v : Value) : w.grownBy (w.setCell ⟨g, i, none⟩ v) (some g) :=
  ⟨rfl, rfl, rfl, by simp [World.setCell], fun k _ hk => Below.heap_setCell _ _ _ _ (fun e => hk (by rw [e]))⟩
theorem grownBy_below {w w' : World} {g : Nat} (h : Below w.heap.size w w') : w.grownBy w' (some g) := ⟨h.os, h.tape, h.output, h.size, fun k hk _ => h.block k hk⟩
theorem grownBy_two {a b c : World} {g : Nat} (h : a.grownBy b (some g)) (k : b.grownBy c (some g)) : a.grownBy c (some g) :=
  ⟨k.os.trans h.os, k.tape.trans h.tape, k.output.trans h.output, Nat.le_trans h.size k.size, fun i hi hn => (k.block i (Nat.lt_of_lt_of_le hi h.size) hn).trans (h.block i hi hn)⟩

theorem set_marks {k j : Nat} {ys : List ByteArray} (h : ∀ t, t < j → ys.getD t ⟨#[]⟩ = mt (k + t)) (hj : j < ys.length) : ∀ t, t < j + 1 → (ys.set j (mt (k + j))).getD t ⟨#[]⟩ = mt (k + t) := by
  intro t ht
  by_cases e : t = j
  · subst e; simp [List.getD, hj]
  · have := h t (by omega)
    simpa [List.getD, List.getElem?_set, Ne.symm e] using this
theorem wrow_marks {w : World} {g k n : Nat} {ys : List ByteArray} (h : WRow w g ys) (hl : ys.length = n) (hy : ∀ t, t < n → ys.getD t ⟨#[]⟩ = mt (k + t)) : WRow w g (marks k n) := by
  refine ⟨h.1, fun j hj => ?_⟩
  rw [marks_len] at hj
  have := h.2 j (by omega)
  rw [marks_at k n j hj, ← hy j hj]
  exact this
theorem markStringS_none (a : Option Addr) (k ca : Nat) (w : World) :
    Calls Tryd.prog 14 #[.slice a 0 ca, .int .i64 k] w fun e w' => e = .returned (.int .i64 k) ∧ w' = w := by
  go_enter Tryd.func14, Tryd.ntmps14
  go_wp2_with fail
  go_rounds 1
  go_ret
  exact ⟨rfl, rfl⟩

set_option maxHeartbeats 400000 in
theorem markStringS_any (g : Nat) (xs : List ByteArray) (k ca : Nat) (w : World) (ha : WRow w g xs) (hk : 0 < k) (hn : k + xs.length ≤ 100000000) (hca : xs.length ≤ ca) :
    Calls Tryd.prog 14 #[.slice (some ⟨g, 0, none⟩) xs.length ca, .int .i64 k] w fun e w' => e = .returned (.int .i64 (k + xs.length : Nat)) ∧ WRow w' g (marks k xs.length) ∧ w.grownBy w' (some g) := by
  obtain ⟨n, hnx⟩ : ∃ n, n = xs.length := ⟨_, rfl⟩
  have HN : Hid (n = xs.length) := hnx
  rw [← hnx]
  rw [← hnx] at hn hca
  clear hnx
  go_enter Tryd.func14, Tryd.ntmps14
  go_wp2_with fail
  go_loopw [1, 5] (fun c i wr => ∃ (j : Nat) (ys : List ByteArray), i = .int .i64 j ∧ c = .int .i64 (k + j : Nat) ∧ j ≤ n ∧ ys.length = n ∧ (∀ t, t < j → ys.getD t ⟨#[]⟩ = mt (k + t)) ∧ WRow wr g ys ∧ w.grownBy wr (some g)) (fun _ i _ => n - (intOf i).toNat)
  case atStart => exact ⟨0, xs, rfl, rfl, Nat.zero_le _, HN.out.symm, fun t ht => by omega, ha, grownBy_below (Below.refl _ _)⟩
  case round =>
    obtain ⟨j, ys, rfl, rfl, hj, hyl, hys, hw, hgr⟩ := hrel
    have HL : Hid (ys.length = n) := hyl
    have HY : Hid _ := hys
    clear hyl hys
    by_cases hlt : j < n
    · have j0 : (0 : Int) ≤ (j : Int) := by omega
      have j1 : (j : Int) < (n : Int) := by omega
      go_wp2_with fail
      refine (markText_any (k + j) _ (by omega) (by omega)).mono ?_
      rintro e w1 ⟨rfl, hb1⟩
      have hw1 := hw.below hb1 hw.1
      have c1 := (hw1.2 j (by have := HL.out; omega)).1
      have c2 := (hw1.2 j (by have := HL.out; omega)).2
      have hset := hw1.set j (mt (k + j)) (by have := HL.out; omega)
      have hgs := grownBy_two hgr (grownBy_two (grownBy_below hb1) (grownBy_setCell w1 g j (.string (mt (k + j)))))
      clear hw hgr hb1
      go_wp2_with fail
      go_roundw
      case rel => exact ⟨j + 1, _, by go_num, congrArg (Value.int .i64) (by omega), by omega, by rw [List.length_set]; exact HL.out, set_marks HY.out (by have := HL.out; omega), hset, hgs⟩
      case measure => simp [intOf]; omega
    · have e : j = n := by omega
      subst e
      have hfin := wrow_marks hw HL.out HY.out
      go_wp2_with fail
      go_ret
      exact ⟨rfl, hfin, hgr⟩
end Go.Proofs.YtoaifodmjkhiiaaDoor
/- UnRm: Rows of Units: marks that are laid into one, and found again (written by gen/mkflat.py). -/
namespace Go.Proofs.YtoaifodmjkhiiaaDoor
set_option maxRecDepth 100000
open Go.RowKit
attribute [local go_sem ↓] Go.wp_at_zero Go.wp_at_succ

def markU (k : Nat) : UnM := ⟨((k : Nat) : Int), ((k + 1 : Nat) : Int), mt (k + 2), ((k + 3 : Nat) : Int)⟩
def marksU (k n : Nat) : List UnM := (List.range n).map fun j => markU (k + 4 * j)
theorem marksU_len (k n : Nat) : (marksU k n).length = n := by simp [marksU]
theorem marksU_at (k n j : Nat) (h : j < (marksU k n).length) : (marksU k n)[j] = markU (k + 4 * j) := by simp [marksU]
theorem marksU_all {k n : Nat} {ys : List UnM} (hl : ys.length = n) (h : ∀ t, t < n → ys[t]? = some (markU (k + 4 * t))) : ys = marksU k n := by
  apply List.ext_getElem
  · rw [hl, marksU_len]
  · intro i h1 h2
    rw [marksU_at]
    have := h i (by omega)
    rw [List.getElem?_eq_getElem h1] at this
    exact Option.some.inj this
theorem markUnitS_zero (a : Option Addr) (k ca : Nat) (w : World) :
    Calls Tryd.prog 33 #[.slice a 0 ca, .int .i64 k] w fun e w' => e = .returned (.int .i64 k) ∧ w' = w := by
  go_enter Tryd.func33, Tryd.ntmps33
  go_wp2_with fail
  go_rounds 1
  go_ret
  exact ⟨rfl, rfl⟩
set_option maxHeartbeats 1000000 in
theorem markUnitS_all (g : Nat) (xs : List UnM) (k ca : Nat) (w : World) (ha : WCells w g (unS xs)) (hk : 0 < k) (hn : k + 4 * xs.length ≤ 1000000000) (hca : xs.length ≤ ca) :
    Calls Tryd.prog 33 #[.slice (some ⟨g, 0, none⟩) xs.length ca, .int .i64 k] w fun e w' => e = .returned (.int .i64 (k + 4 * xs.length : Nat)) ∧ WCells w' g (unS (marksU k xs.length)) ∧ w.grownBy w' (some g) := by
  obtain ⟨n, hnx⟩ : ∃ n, n = xs.length := ⟨_, rfl⟩
  have HN := Shut.mk hnx
  rw [← hnx]
  rw [← hnx] at hn hca
  clear hnx
  have HA := Shut.mk ha
  clear ha
  go_enter Tryd.func33, Tryd.ntmps33
  go_wp2_with fail
  go_loopw [1, 5] (fun c i wr => ∃ (j : Nat) (ys : List UnM), i = .int .i64 j ∧ c = .int .i64 (k + 4 * j : Nat) ∧ j ≤ n ∧ Shut (ys.length = n ∧ (∀ t, t < j → ys[t]? = some (markU (k + 4 * t))) ∧ WCells wr g (unS ys) ∧ w.grownBy wr (some g))) (fun _ i _ => n - (intOf i).toNat)
  case atStart => exact ⟨0, xs, rfl, rfl, Nat.zero_le _, ⟨HN.out.symm, fun t ht => by omega, HA.out, grownBy_below (Below.refl _ _)⟩⟩
  case round =>
    obtain ⟨j, ys, rfl, rfl, hj, HH⟩ := hrel
    by_cases hlt : j < n
    · have j0 : (0 : Int) ≤ (j : Int) := by omega
      have j1 : (j : Int) < (n : Int) := by omega
      have hly : (unS ys).length = n * 4 := by rw [unS_len, HH.out.1]
      have hw0 := HH.out.2.2.1
      have Q2 : Shut (∀ W : World, Calls Tryd.prog 34 #[.int .i64 ((k : Int) + 4 * (j : Int) + 1 + 1)] W fun e w' => e = .returned (.string (mt (k + 4 * j + 2))) ∧ Below W.heap.size W w') := ⟨fun W => by
        have q := markText_any (k + 4 * j + 2) W (by omega) (by omega)
        rwa [show ((k + 4 * j + 2 : Nat) : Int) = (k : Int) + 4 * (j : Int) + 1 + 1 by push_cast; omega] at q⟩
      obtain ⟨c0, z0⟩ := hw0.2 (j * 4) _ (List.getElem?_eq_getElem (by first | omega | (simp only [List.length_set]; omega)))
      have HS0 : Shut (WCells (wr.setCell ⟨g, j * 4, none⟩ (.int .i64 ((k : Int) + 4 * (j : Int)))) g ((unS ys).set (j * 4) (.int .i64 ((k : Int) + 4 * (j : Int))))) := ⟨hw0.set (j * 4) _ (by first | omega | (simp only [List.length_set]; omega))⟩
      have HG0 : Shut (w.grownBy (wr.setCell ⟨g, j * 4, none⟩ (.int .i64 ((k : Int) + 4 * (j : Int)))) (some g)) := ⟨(grownBy_two HH.out.2.2.2 (grownBy_setCell _ g _ _))⟩
      obtain ⟨c1, z1⟩ := HS0.out.2 (j * 4 + 1) _ (List.getElem?_eq_getElem (by first | omega | (simp only [List.length_set]; omega)))
      have HS1 : Shut (WCells ((wr.setCell ⟨g, j * 4, none⟩ (.int .i64 ((k : Int) + 4 * (j : Int)))).setCell ⟨g, j * 4 + 1, none⟩ (.int .i64 ((k : Int) + 4 * (j : Int) + 1))) g (((unS ys).set (j * 4) (.int .i64 ((k : Int) + 4 * (j : Int)))).set (j * 4 + 1) (.int .i64 ((k : Int) + 4 * (j : Int) + 1)))) := ⟨HS0.out.set (j * 4 + 1) _ (by first | omega | (simp only [List.length_set]; omega))⟩
      have HG1 : Shut (w.grownBy ((wr.setCell ⟨g, j * 4, none⟩ (.int .i64 ((k : Int) + 4 * (j : Int)))).setCell ⟨g, j * 4 + 1, none⟩ (.int .i64 ((k : Int) + 4 * (j : Int) + 1))) (some g)) := ⟨(grownBy_two HG0.out (grownBy_setCell _ g _ _))⟩
      go_wp2_with fail
      refine (Q2.out _).mono ?_
      rintro e w2 ⟨rfl, hb2⟩
      have hv2 := HS1.out.grow hb2
      obtain ⟨c2, z2⟩ := hv2.2 (j * 4 + 2) _ (List.getElem?_eq_getElem (by first | omega | (simp only [List.length_set]; omega)))
      have HS2 : Shut (WCells (w2.setCell ⟨g, j * 4 + 2, none⟩ (.string (mt (k + 4 * j + 2)))) g ((((unS ys).set (j * 4) (.int .i64 ((k : Int) + 4 * (j : Int)))).set (j * 4 + 1) (.int .i64 ((k : Int) + 4 * (j : Int) + 1))).set (j * 4 + 2) (.string (mt (k + 4 * j + 2))))) := ⟨hv2.set (j * 4 + 2) _ (by first | omega | (simp only [List.length_set]; omega))⟩
      have HG2 : Shut (w.grownBy (w2.setCell ⟨g, j * 4 + 2, none⟩ (.string (mt (k + 4 * j + 2)))) (some g)) := ⟨(grownBy_two (grownBy_two HG1.out (grownBy_below hb2)) (grownBy_setCell _ g _ _))⟩
      obtain ⟨c3, z3⟩ := HS2.out.2 (j * 4 + 3) _ (List.getElem?_eq_getElem (by first | omega | (simp only [List.length_set]; omega)))
      have HS3 : Shut (WCells ((w2.setCell ⟨g, j * 4 + 2, none⟩ (.string (mt (k + 4 * j + 2)))).setCell ⟨g, j * 4 + 3, none⟩ (.int .i64 ((k : Int) + 4 * (j : Int) + 1 + 1 + 1))) g (((((unS ys).set (j * 4) (.int .i64 ((k : Int) + 4 * (j : Int)))).set (j * 4 + 1) (.int .i64 ((k : Int) + 4 * (j : Int) + 1))).set (j * 4 + 2) (.string (mt (k + 4 * j + 2)))).set (j * 4 + 3) (.int .i64 ((k : Int) + 4 * (j : Int) + 1 + 1 + 1)))) := ⟨HS2.out.set (j * 4 + 3) _ (by first | omega | (simp only [List.length_set]; omega))⟩
      have HG3 : Shut (w.grownBy ((w2.setCell ⟨g, j * 4 + 2, none⟩ (.string (mt (k + 4 * j + 2)))).setCell ⟨g, j * 4 + 3, none⟩ (.int .i64 ((k : Int) + 4 * (j : Int) + 1 + 1 + 1))) (some g)) := ⟨(grownBy_two HG2.out (grownBy_setCell _ g _ _))⟩
      have hE : (⟨(k : Int) + 4 * (j : Int), (k : Int) + 4 * (j : Int) + 1, mt (k + 4 * j + 2), (k : Int) + 4 * (j : Int) + 1 + 1 + 1⟩ : UnM) = markU (k + 4 * j) := by
        unfold markU
        congr 1 <;> (push_cast; omega)
      have HF : Shut (WCells ((w2.setCell ⟨g, j * 4 + 2, none⟩ (.string (mt (k + 4 * j + 2)))).setCell ⟨g, j * 4 + 3, none⟩ (.int .i64 ((k : Int) + 4 * (j : Int) + 1 + 1 + 1))) g (unS (ys.set j ⟨(k : Int) + 4 * (j : Int), (k : Int) + 4 * (j : Int) + 1, mt (k + 4 * j + 2), (k : Int) + 4 * (j : Int) + 1 + 1 + 1⟩))) := ⟨by
        have hfin : (((((unS ys).set (j * 4) (.int .i64 ((k : Int) + 4 * (j : Int)))).set (j * 4 + 1) (.int .i64 ((k : Int) + 4 * (j : Int) + 1))).set (j * 4 + 2) (.string (mt (k + 4 * j + 2)))).set (j * 4 + 3) (.int .i64 ((k : Int) + 4 * (j : Int) + 1 + 1 + 1))) = unS (ys.set j ⟨(k : Int) + 4 * (j : Int), (k : Int) + 4 * (j : Int) + 1, mt (k + 4 * j + 2), (k : Int) + 4 * (j : Int) + 1 + 1 + 1⟩) := flat_setL unC_len ys j (by have := HH.out.1; omega) (⟨(k : Int) + 4 * (j : Int), (k : Int) + 4 * (j : Int) + 1, mt (k + 4 * j + 2), (k : Int) + 4 * (j : Int) + 1 + 1 + 1⟩ : UnM)
        have q := HS3.out
        rw [hfin] at q
        exact q⟩
      rw [hE] at HF
      clear HS0 HS1 HS2 HS3 HG0 HG1 HG2 hw0 hb2 hv2 hE
      go_wp2_with fail
      go_roundw
      case rel =>
        refine ⟨j + 1, ys.set j (markU (k + 4 * j)), by go_num, congrArg (Value.int .i64) (by omega), by omega, ⟨by rw [List.length_set]; exact HH.out.1, fun t ht => ?_, ?_, ?_⟩⟩
        rotate_left
        · exact HF.out
        · exact HG3.out
        by_cases hjt : t = j
        · subst hjt
          rw [List.getElem?_set_self (by have := HH.out.1; omega)]
        · rw [List.getElem?_set_ne (Ne.symm hjt)]
          exact HH.out.2.1 t (by omega)
      case measure => simp [intOf]; omega
    · have e : j = n := by omega
      subst e
      have hfin := marksU_all HH.out.1 HH.out.2.1
      subst hfin
      go_wp2_with fail
      go_ret
      exact ⟨rfl, HH.out.2.2.1, HH.out.2.2.2⟩
/-- Marks in a row between two places, or in none. -/
theorem markUnitS_row (va : Option Addr) (xs : List UnM) (k ca lo hi : Nat) (w : World) (h : FRw w va (unS xs) lo hi) (hk : 0 < k) (hn : k + 4 * xs.length ≤ 1000000000) (hca : xs.length ≤ ca) :
    Calls Tryd.prog 33 #[.slice va xs.length ca, .int .i64 k] w fun e w' => e = .returned (.int .i64 (k + 4 * xs.length : Nat)) ∧ FRw w' va (unS (marksU k xs.length)) lo hi ∧ ∃ row, w.grownBy w' row ∧ ∀ g, row = some g → lo ≤ g ∧ g < hi := by
  rcases h with ⟨rfl, hX⟩ | ⟨g, rfl, h1, h2, h3⟩
  · have e : xs = [] := by
      have := congrArg List.length hX
      rw [unS_len] at this
      exact List.eq_nil_of_length_eq_zero (by simp at this; omega)
    subst e
    refine (markUnitS_zero none k ca w).mono ?_
    rintro e w' ⟨rfl, rfl⟩
    exact ⟨by simp, .inl ⟨rfl, by simp [marksU, unS]⟩, none, ⟨rfl, rfl, rfl, Nat.le_refl _, fun _ _ _ => rfl⟩, by simp⟩
  · refine (markUnitS_all g xs k ca w h3 hk hn hca).mono ?_
    rintro e w' ⟨rfl, h4, h5⟩
    exact ⟨rfl, .inr ⟨g, rfl, h1, h2, h4⟩, some g, h5, fun g' e => by simp at e; omega⟩
end Go.Proofs.YtoaifodmjkhiiaaDoor
/- HoA: Hosts in memory, and in the laws: sizes, copies, two that are the same, marks. -/
namespace Go.Proofs.YtoaifodmjkhiiaaDoor
set_option maxRecDepth 100000
open Go.RowKit
attribute [local go_sem ↓] Go.wp_at_zero Go.wp_at_succ

/-- A host's value: its units in a row. -/
abbrev hov (H : HM) (a : Option Addr) (cap : Nat) : Value := .agg #[.int .i64 H.id, .bool H.up, .slice a H.us.length cap]
/-- A host whose row is its own, in a stretch. -/
def HAns (w : World) (v : Value) (H : HM) (lo hi : Nat) : Prop := ∃ a cap, v = hov H a cap ∧ FRw w a (unS H.us) lo hi ∧ H.us.length ≤ cap
def HoPost (H : HM) (w : World) (e : Ending) (w' : World) : Prop := ∃ a cap, e = .returned (hov H a cap) ∧ FRw w' a (unS H.us) w.heap.size w'.heap.size ∧ H.us.length ≤ cap ∧ Below w.heap.size w w'
theorem turned_rw {W W' : World} {lo hi : Nat} {row : Option Nat} (hg : W.grownBy W' row) (hr : ∀ g, row = some g → lo ≤ g ∧ g < hi) : Turned W W' lo hi := by
  cases row with
  | none => exact Turned.of_below ⟨hg.os, hg.tape, hg.output, hg.size, fun k hk => hg.block k hk (by simp)⟩ _ _
  | some g => exact Turned.of_grown hg (hr g rfl).1 (hr g rfl).2
theorem szHost_any (H : HM) (a : Option Addr) (cap : Nat) (left : Int) (w : World) (hr : UnRow w a H.us) (hf : UnFits H.us) (h0 : 0 ≤ left) (h1 : left ≤ 1048576) :
    Calls Tryd.prog 27 #[hov H a cap, .int .i64 left] w fun e w' => SzPostUn left (H.us.length + unSum H.us) w e w' := by
  have HB0 := Shut.mk (show Below w.heap.size w (w.alloc (.cells #[.int .i64 H.id, .bool H.up, .slice a H.us.length cap] 52)) from (Below.refl _ _).alloc (Nat.le_refl _) _)
  have HR := Shut.mk (hr.stays HB0.out)
  have HF := Shut.mk hf
  clear hr hf
  go_enter Tryd.func27, Tryd.ntmps27
  go_wp2_with fail
  refine (szUnitS_any a H.us cap left _ HR.out HF.out h0 h1).mono ?_
  rintro e w2 ⟨r, rfl, hr1, hr2, hb2⟩
  have HB2 := Shut.mk (HB0.out.trans (hb2.mono HB0.out.size))
  have HR2 := Shut.mk hr2
  clear hb2 hr2
  by_cases hr : r < 0
  · go_wp2_with fail
    go_ret
    exact ⟨-1, rfl, by omega, by omega, HB2.out⟩
  · go_wp2_with fail
    go_ret
    exact ⟨r, rfl, hr1, HR2.out, HB2.out⟩
theorem toHost_any (H : HM) (a : Option Addr) (cap : Nat) (w : World) (hr : UnRow w a H.us) (hl : H.us.length ≤ 1048576) :
    Calls Tryd.prog 29 #[hov H a cap] w fun e w' => HoPost H w e w' := by
  have HS0 := Shut.mk ((((SL.start w).new #[.int .i64 H.id, .bool H.up, .slice a H.us.length cap] 52).new #[.int .i64 0, .bool false, .slice none 0 0] 46).new #[.int .i64 H.id, .bool H.up, .slice none 0 0] 46)
  simp only [World.size_alloc] at HS0
  have HR := Shut.mk hr
  clear hr
  obtain ⟨id, up, us⟩ := H
  dsimp only at *
  obtain ⟨n, hn⟩ : ∃ n, n = us.length := ⟨_, rfl⟩
  have HN := Shut.mk hn
  show Calls Tryd.prog 29 #[.agg #[.int .i64 id, .bool up, .slice a us.length cap]] w fun e w' => HoPost ⟨id, up, us⟩ w e w'
  rw [← hn] at HS0 hl ⊢
  clear hn
  go_enter Tryd.func29, Tryd.ntmps29
  go_upto_region 4 with fail
  refine wp_shade (fun W => SL w W [bxS (w.heap.size + 1 + 1) [.int .i64 id, .bool up, .slice none 0 0], bxS (w.heap.size + 1) [.int .i64 0, .bool false, .slice none 0 0], bxS w.heap.size [.int .i64 id, .bool up, .slice a n cap]]) HS0.out ?_
  intro W hW
  have HW := Shut.mk hW
  have HW0 := Shut.mk hW.bel.size
  clear HS0 hW
  have x2 := (HW.out.bx 2 rfl 2 _ rfl).1
  go_upto_region 5 with (go_at_call 41; rw [HN.out]; refine (toUnitS_any a us cap W (HR.out.stays HW.out.bel) (by have := HN.out; omega)).mono ?_; rintro e w2 ⟨g, rfl, hg, hw, hb⟩; have HS := Shut.mk (HW.out.add (s := rwS (some ⟨g, 0, none⟩) (unS us) W.heap.size w2.heap.size) hb (FRw.of_wcells hw hg hw.1) (rwS.loc _ _ _ _) (Nat.le_refl _) (Nat.le_refl _)); rw [← HN.out]; have y2 := HS.out.bx 1 rfl 2 _ rfl; clear hb hw hg x2 HW; obtain ⟨y2, y2z⟩ := y2)
  have HP := Shut.mk (HS.out.put 1 rfl 2 (.slice (some ⟨g, 0, none⟩) n n) (by simp))
  simp only [List.set_cons_zero, List.set_cons_succ] at HP
  refine wp_shade (fun W' => SL w W' [rwS (some ⟨g, 0, none⟩) (unS us) W.heap.size w2.heap.size, bxS (w.heap.size + 1 + 1) [.int .i64 id, .bool up, .slice (some ⟨g, 0, none⟩) n n], bxS (w.heap.size + 1) [.int .i64 0, .bool false, .slice none 0 0], bxS w.heap.size [.int .i64 id, .bool up, .slice a n cap]] ∧ W'.heap.size = w2.heap.size) ⟨HP.out, by simp [World.setCell]⟩ ?_
  intro W3 h3
  have H3 := Shut.mk h3.1
  have HZ := Shut.mk h3.2
  have hlt : W.heap.size ≤ w2.heap.size := by have := HS.out.is _ (List.mem_cons_self ..); have h1 := this.2.2.2; have := HS.out.at 0 rfl; rcases this with ⟨e, _⟩ | ⟨q, _, h4, h5, _⟩; cases e; dsimp only at h1; omega
  have HL := Shut.mk (And.intro hlt HW0.out)
  have z0 := (H3.out.bx 1 rfl 0 _ rfl).1
  have z1 := (H3.out.bx 1 rfl 1 _ rfl).1
  have z2 := (H3.out.bx 1 rfl 2 _ rfl).1
  obtain ⟨r0, r0z⟩ := H3.out.bx 2 rfl 0 _ rfl
  obtain ⟨r1, r1z⟩ := H3.out.bx 2 rfl 1 _ rfl
  obtain ⟨r2, r2z⟩ := H3.out.bx 2 rfl 2 _ rfl
  clear h3 HS HP y2 y2z hlt HW0
  go_wp2_with fail
  have HE := Shut.mk ((((H3.out.put 2 rfl 0 (.int .i64 id) (by simp)).put 2 rfl 1 (.bool up) (by simp)).put 2 rfl 2 (.slice (some ⟨g, 0, none⟩) n n) (by simp)))
  refine bodyPost_ret (v := .agg #[.int .i64 id, .bool up, .slice (some ⟨g, 0, none⟩) n n]) (by simp [results, Tryd.results29, go_sem, r0, r1, r2]) rfl ⟨some ⟨g, 0, none⟩, n, by rw [HN.out], ?_, by have := HN.out; show us.length ≤ n; omega, HE.out.bel⟩
  have hq : FRw _ (some ⟨g, 0, none⟩) (unS us) W.heap.size w2.heap.size := HE.out.at 0 rfl
  rcases hq with ⟨e, _⟩ | ⟨q, e, h4, h5, h6⟩
  · cases e
  · exact .inr ⟨q, e, by have := HL.out.2; omega, by have := HZ.out; simp [World.setCell]; omega, h6⟩
theorem eqHost_same (H : HM) (a b : Option Addr) (ca cb : Nat) (w : World) (ha : UnRow w a H.us) (hb : UnRow w b H.us) (hl : H.us.length ≤ 9000000) :
    Calls Tryd.prog 32 #[hov H a ca, hov H b cb] w fun e w' => e = .returned (.bool true) ∧ Below w.heap.size w w' := by
  have hb0 : Below w.heap.size w ((w.alloc (.cells #[.int .i64 H.id, .bool H.up, .slice a H.us.length ca] 46)).alloc (.cells #[.int .i64 H.id, .bool H.up, .slice b H.us.length cb] 46)) := ((Below.refl _ _).alloc (Nat.le_refl _) _).alloc (by simp) _
  have HA := Shut.mk (ha.stays hb0)
  have HB := Shut.mk (hb.stays hb0)
  have HB0 := Shut.mk hb0
  have hu : (H.up != H.up) = false := by simp
  clear ha hb hb0
  go_enter Tryd.func32, Tryd.ntmps32
  go_wp2_with fail
  refine (eqUnitS_same a b H.us ca cb _ HA.out HB.out hl).mono ?_
  rintro e w2 ⟨rfl, hb2⟩
  have HB2 := Shut.mk (HB0.out.trans (hb2.mono HB0.out.size))
  clear hb2
  go_wp2_with fail
  go_ret
  exact ⟨rfl, HB2.out⟩
/-- The host whose units are marks. -/
def markH (H : HM) (k : Nat) : HM := ⟨H.id, H.up, marksU k H.us.length⟩
end Go.Proofs.YtoaifodmjkhiiaaDoor
/- HsM: Rows of hosts in memory: one that is read, one that may be written. -/
namespace Go.Proofs.YtoaifodmjkhiiaaDoor
set_option maxRecDepth 100000
open Go.RowKit

/-- A host, and where its units lie. -/
structure HoR where
  h : HM
  loc : Option Addr
  cap : Nat
instance : Inhabited HoR := ⟨⟨default, none, 0⟩⟩
def hC (r : HoR) : List Value := [.int .i64 r.h.id, .bool r.h.up, .slice r.loc r.h.us.length r.cap]
theorem hC_len (r : HoR) : (hC r).length = 3 := rfl
def HK : NK HoR := ⟨hC, 3, hC_len, HoR.loc, fun r => unS r.h.us⟩
def hS (rs : List HoR) : List Value := HK.cells rs
theorem hS_len (rs : List HoR) : (hS rs).length = rs.length * 3 := HK.cells_len rs
def hms (rs : List HoR) : List HM := rs.map HoR.h
theorem hms_len (rs : List HoR) : (hms rs).length = rs.length := by simp [hms]
/-- A row of hosts, as it is read. -/
def HsRow (w : World) (a : Option Addr) (rs : List HoR) : Prop := CRow w a (hS rs) ∧ ∀ r ∈ rs, UnRow w r.loc r.h.us
theorem HsRow.stays {w w' : World} {a : Option Addr} {rs : List HoR} (h : HsRow w a rs) (hb : Below w.heap.size w w') : HsRow w' a rs := ⟨h.1.stays hb, fun r hr => (h.2 r hr).stays hb⟩
theorem HsRow.at {w : World} {a : Option Addr} {rs : List HoR} (h : HsRow w a rs) (hp : 0 < rs.length) : ∃ b off, a = some ⟨b, off, none⟩ ∧ b < w.heap.size ∧ ∀ k (hk : k < rs.length), w.cell? ⟨b, off + k * 3, none⟩ = some (.int .i64 rs[k].h.id) ∧ w.cell? ⟨b, off + k * 3 + 1, none⟩ = some (.bool rs[k].h.up) ∧ w.cell? ⟨b, off + k * 3 + 2, none⟩ = some (.slice rs[k].loc rs[k].h.us.length rs[k].cap) ∧ UnRow w rs[k].loc rs[k].h.us := by
  obtain ⟨b, off, e, lb, hc⟩ := h.1 (by rw [hS_len]; omega)
  refine ⟨b, off, e, lb, fun k hk => ?_⟩
  have q : ∀ i v, i < 3 → (hC rs[k])[i]? = some v → w.cell? ⟨b, off + (k * 3 + i), none⟩ = some v := fun i v hi hv => hc _ v (by
    have := HK.cells_get rs k hk i hi
    exact this.trans hv)
  have q0 := q 0 _ (by omega) rfl
  have q1 := q 1 _ (by omega) rfl
  have q2 := q 2 _ (by omega) rfl
  rw [Nat.add_zero] at q0
  rw [← Nat.add_assoc] at q1 q2
  exact ⟨q0, q1, q2, h.2 _ (List.getElem_mem hk)⟩
/-- A host of a row, in every later world. -/
theorem hs_at {w W : World} {a : Option Addr} {rs : List HoR} (hr : HsRow w a rs) (hb : Below w.heap.size w W) {k : Nat} (hk : k < rs.length) : ∃ b off r, a = some ⟨b, off, none⟩ ∧ r = rs[k] ∧ b < w.heap.size ∧ ∀ X, Below W.heap.size W X → X.cell? ⟨b, off + k * 3, none⟩ = some (.int .i64 r.h.id) ∧ X.cell? ⟨b, off + k * 3 + 1, none⟩ = some (.bool r.h.up) ∧ X.cell? ⟨b, off + k * 3 + 2, none⟩ = some (.slice r.loc r.h.us.length r.cap) ∧ UnRow X r.loc r.h.us := by
  obtain ⟨b, off, e, lb, _⟩ := hr.at (by omega)
  refine ⟨b, off, rs[k], e, rfl, lb, fun X hX => ?_⟩
  obtain ⟨b', off', e', _, hc⟩ := (hr.stays (hb.trans (hX.mono hb.size))).at (by omega)
  rw [e] at e'
  simp only [Option.some.injEq, Addr.mk.injEq, and_true] at e'
  obtain ⟨rfl, rfl⟩ := e'
  exact hc k hk
/-- A row of hosts that may be written: all in a range. -/
def HsW (w : World) (va : Option Addr) (rs : List HoR) (lo hi : Nat) : Prop := (∀ r ∈ rs, r.h.us.length ≤ r.cap) ∧ ((va = none ∧ rs = []) ∨ ∃ g, va = some ⟨g, 0, none⟩ ∧ GW HK w g rs lo hi)
theorem HsW.row {w : World} {va : Option Addr} {rs : List HoR} {lo hi : Nat} (h : HsW w va rs lo hi) : HsRow w va rs := by
  rcases h.2 with ⟨rfl, rfl⟩ | ⟨g, rfl, hg⟩
  · exact ⟨fun hp => by rw [hS_len] at hp; simp at hp, fun r hr => by cases hr⟩
  · exact ⟨hg.gr.1.crow, fun r hr => (hg.gr.2 r hr).crow⟩
theorem HsW.turned {w w' : World} {va : Option Addr} {rs : List HoR} {lo hi lo' hi' : Nat} (h : HsW w va rs lo hi) (t : Turned w w' lo' hi') (hd : hi ≤ lo' ∨ hi' ≤ lo) : HsW w' va rs lo hi :=
  ⟨h.1, h.2.imp id fun ⟨g, e, hg⟩ => ⟨g, e, hg.turned t hd⟩⟩
theorem HsW.below {w w' : World} {va : Option Addr} {rs : List HoR} {lo hi : Nat} (h : HsW w va rs lo hi) (hb : Below w.heap.size w w') : HsW w' va rs lo hi := ⟨h.1, h.2.imp id fun ⟨g, e, hg⟩ => ⟨g, e, hg.below hb⟩⟩
theorem HsW.wide {w : World} {va : Option Addr} {rs : List HoR} {lo hi lo' hi' : Nat} (h : HsW w va rs lo hi) (h1 : lo' ≤ lo) (h2 : hi ≤ hi') : HsW w va rs lo' hi' := ⟨h.1, h.2.imp id fun ⟨g, e, hg⟩ => ⟨g, e, hg.wide h1 h2⟩⟩
/-- A row of hosts as a stretch. -/
abbrev hsS (va : Option Addr) (rs : List HoR) (lo hi : Nat) : Str := ⟨fun W => HsW W va rs lo hi, lo, hi⟩
theorem hsS.loc (va : Option Addr) (rs : List HoR) (lo hi : Nat) : (hsS va rs lo hi).Loc := fun _ _ _ _ h t hd => HsW.turned h t hd
/-- The answer: hosts in rows of the call's own. -/
def HsPost (hs : List HM) (w : World) (e : Ending) (w' : World) : Prop := ∃ va cap rs, e = .returned (.slice va rs.length cap) ∧ hms rs = hs ∧ HsW w' va rs w.heap.size w'.heap.size ∧ rs.length ≤ cap ∧ Below w.heap.size w w'
/-- How much hosts hold. -/
def hsSum : List HM → Nat
  | [] => 0
  | h :: hs => (h.us.length + unSum h.us) + hsSum hs
theorem hsSum_take (hs : List HM) (k : Nat) (h : k < hs.length) : hsSum (hs.take (k + 1)) = hsSum (hs.take k) + (hs[k].us.length + unSum hs[k].us) := by
  induction hs generalizing k with
  | nil => simp at h
  | cons a hs ih =>
    cases k with
    | zero => simp [hsSum]
    | succ k =>
      have := ih k (by simpa using h)
      simp only [List.take_succ_cons, hsSum, List.getElem_cons_succ] at this ⊢
      omega
theorem hsSum_mem {hs : List HM} {h : HM} (hm : h ∈ hs) : h.us.length + unSum h.us ≤ hsSum hs := by
  induction hs with
  | nil => cases hm
  | cons a hs ih =>
    simp only [hsSum]
    rcases List.mem_cons.1 hm with rfl | hm
    · omega
    · have := ih hm; omega
def HsFits (hs : List HM) : Prop := hs.length ≤ 9223372036854775807 ∧ ∀ h ∈ hs, UnFits h.us ∧ -9223372036854775808 ≤ h.id ∧ h.id ≤ 9223372036854775807
/-- The hosts whose fields are marks. -/
def marksH (k : Nat) : List HM → List HM
  | [] => []
  | h :: hs => ⟨(k : Nat), (k + 1) % 3 == 0, marksU (k + 2) h.us.length⟩ :: marksH (k + 2 + 4 * h.us.length) hs
def endH (k : Nat) : List HM → Nat
  | [] => k
  | h :: hs => endH (k + 2 + 4 * h.us.length) hs
theorem endH_eq (k : Nat) (hs : List HM) : endH k hs = k + 2 * hs.length + 4 * (hs.map fun h => h.us.length).sum := by
  induction hs generalizing k with
  | nil => simp [endH]
  | cons h hs ih => simp only [endH, ih, List.length_cons, List.map_cons, List.sum_cons]; omega
theorem marksH_len (k : Nat) (hs : List HM) : (marksH k hs).length = hs.length := by
  induction hs generalizing k with
  | nil => rfl
  | cons h hs ih => simp [marksH, ih]
theorem endH_take (k : Nat) (hs : List HM) (j : Nat) (hj : j < hs.length) : endH k (hs.take (j + 1)) = endH k (hs.take j) + 2 + 4 * hs[j].us.length := by
  induction hs generalizing k j with
  | nil => simp at hj
  | cons h hs ih =>
    cases j with
    | zero => simp [endH]
    | succ j => simpa [endH] using ih (k + 2 + 4 * h.us.length) j (by simpa using hj)
theorem marksH_at (k : Nat) (hs : List HM) (j : Nat) (hj : j < hs.length) : (marksH k hs)[j]'(by rw [marksH_len]; exact hj) = ⟨(endH k (hs.take j) : Nat), (endH k (hs.take j) + 1) % 3 == 0, marksU (endH k (hs.take j) + 2) hs[j].us.length⟩ := by
  induction hs generalizing k j with
  | nil => simp at hj
  | cons h hs ih =>
    cases j with
    | zero => simp [marksH, endH]
    | succ j => simpa [marksH, endH] using ih (k + 2 + 4 * h.us.length) j (by simpa using hj)
/-- A host is laid anew into such a row. -/
theorem GW.host {w w2 : World} {g lo : Nat} {rs : List HoR} (h : GW HK w g rs lo w.heap.size) (hb : Below w.heap.size w w2) (j : Nat) (hj : j < rs.length) (H : HM) (a : Option Addr) (cap : Nat) (hF : FRw w2 a (unS H.us) w.heap.size w2.heap.size) (hlo : lo ≤ w.heap.size) :
    GW HK (setW w2 g (j * 3) (hC ⟨H, a, cap⟩)) g (rs.set j ⟨H, a, cap⟩) lo w2.heap.size := by
  have k := (h.below hb).wide (Nat.le_refl _) hb.size
  refine k.put j hj ⟨H, a, cap⟩ ?_ fun s hs h1 h2 e => ?_
  · rcases hF with ⟨_, e⟩ | ⟨q, e, q1, q2, q3⟩
    · exact .inl e
    · exact .inr ⟨q, e, by omega, q2, by have := h.ghi; omega, q3⟩
  · rcases h.rows s hs with q | ⟨b, e1, q1, q2, q3, q4⟩
    · exact h1 q
    · rcases hF with ⟨_, q⟩ | ⟨q, e2, p1, p2, p3⟩
      · exact h2 q
      · have : some (⟨b, 0, none⟩ : Addr) = some ⟨q, 0, none⟩ := by rw [← e1, ← e2]; exact e
        simp only [Option.some.injEq, Addr.mk.injEq, and_true] at this
        omega
theorem setW3 (w : World) (g o : Nat) (v0 v1 v2 : Value) : setW w g o [v0, v1, v2] = ((w.setCell ⟨g, o, none⟩ v0).setCell ⟨g, o + 1, none⟩ v1).setCell ⟨g, o + 2, none⟩ v2 := rfl
theorem setW_sz (w : World) (g off : Nat) (vs : List Value) : (setW w g off vs).heap.size = w.heap.size := by
  induction vs generalizing w off with
  | nil => rfl
  | cons v vs ih => show (setW _ g (off + 1) vs).heap.size = _; rw [ih]; simp [World.setCell]
end Go.Proofs.YtoaifodmjkhiiaaDoor
