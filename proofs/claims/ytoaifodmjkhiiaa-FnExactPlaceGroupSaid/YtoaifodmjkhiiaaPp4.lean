/- Texts of ours, laid one behind the other: LawPl, Draw, DrawB, DrawP, SpQ, SpS, HsB, SpnB, TvA. -/
import Derived.Test.YtoaifodmjkhiiaaPp3
import Derived.PlainAid
import Derived.Deep.QuietTactic
import Derived.BigQuiet
import Derived.Deep.RegionHeld3
import Derived.Deep.DrawnRows
import Derived.OwnWalk
import Derived.OpenShut
import Derived.Deep.AppendLies
/- LawPl: The exact law of LoadOf (written by gen/mklawpl.py). -/
namespace Go.Proofs.Ytoaifodmjkhiiaa
set_option maxRecDepth 100000
open Go.RowKit BigFrame
attribute [local go_sem ↓] Go.wp_at_zero Go.wp_at_succ
theorem specLoadOf (H : HM) (a : Option Addr) (cap : Nat) (w : World) : Calls Try.prog 7 #[hov H a cap] w fun e w' => e = .returned (.int .i64 (H.us.length : Nat)) ∧ Below w.heap.size w w' := by
  obtain ⟨id, up, us⟩ := H
  dsimp only [hov]
  generalize us.length = n
  go_enter Try.func7, Try.ntmps7
  go_wp2_with fail
  go_ret
  exact ⟨rfl, (Below.refl _ _).alloc (Nat.le_refl _) _⟩
set_option maxRecDepth 100000 in
set_option maxHeartbeats 8000000 in
theorem lawLoadOf (H : HM) (a : Option Addr) (cap : Nat) (ok : Int) (w : World) (hr : UnRow w a H.us) (hf : UnFits H.us)
    (hsp : H.us.length ≤ 1048576 → unSum H.us ≤ 1048576 → ∀ (W : World) (b : Option Addr) (c : Nat), UnRow W b H.us → Calls Try.prog 7 #[hov H b c] W fun e w' => e = .returned (.int .i64 ok) ∧ Below W.heap.size W w')
    (him : H.us.length ≤ 1048576 → unSum H.us ≤ 1048576 → ∀ (W : World) (b : Option Addr) (c : Nat), UnRow W b H.us → Below w.heap.size w W → Calls Try.prog 9 #[hov H b c] W fun e w' => e = .returned (.int .i64 ok) ∧ Below W.heap.size W w') :
    Calls Try.prog 3 #[hov H a cap] w fun e w' => e = .returned (.bool true) ∧ Below w.heap.size w w' := by
  have HSZ := Shut.mk (fun (W : World) (hb : Below w.heap.size w W) => szHost_any H a cap 1048576 W (hr.stays hb) hf (by omega) (by omega))
  have HTO := Shut.mk (fun (hl : H.us.length ≤ 1048576) (W : World) (hb : Below w.heap.size w W) => toHost_any H a cap W (hr.stays hb) hl)
  have HSP := Shut.mk hsp
  have HIM := Shut.mk him
  have HEQ := Shut.mk (fun (hl : H.us.length ≤ 1048576) (W : World) (b c : Option Addr) (cb cc : Nat) (h1 : UnRow W b H.us) (h2 : UnRow W c H.us) => eqHost_same H b c cb cc W h1 h2 (by omega))
  unfold HoPost at HTO
  obtain ⟨id, up, us⟩ := H
  dsimp only [hov] at *
  obtain ⟨n, hn⟩ : ∃ n, n = us.length := ⟨_, rfl⟩
  rw [← hn] at HSZ HTO HSP HIM HEQ ⊢
  clear hr hf hsp him hn
  have HS0 := Shut.mk ((SL.start w).new #[.int .i64 id, .bool up, .slice a n cap] 24)
  have hdd : (ok != ok) = false := by simp
  go_enter Try.func3, Try.ntmps3
  go_upto_region 2 with fail
  refine wp_shade (fun W => SL w W [bxS w.heap.size [.int .i64 id, .bool up, .slice a n cap]]) HS0.out ?_
  intro W0 hS0
  have H := Shut.mk hS0
  clear hS0 HS0
  have x0 := (H.out.bx 0 rfl 0 _ rfl).1
  have x1 := (H.out.bx 0 rfl 1 _ rfl).1
  have x2 := (H.out.bx 0 rfl 2 _ rfl).1
  go_upto_region 3 with (go_at_call 6; refine (HSZ.out _ H.out.bel).mono ?_; rintro e w1 ⟨r, rfl, r0, r1, hb⟩; replace H := Shut.mk (H.out.below hb); clear hb x0 x1 x2)
  by_cases hq : r < 0
  · clear r1
    go_wp2_with fail
    go_ret
    exact ⟨rfl, H.out.bel⟩
  have hr1 := r1 (by omega)
  have hnl : n ≤ 1048576 := by omega
  replace HTO := Shut.mk (HTO.out (by omega))
  replace HSP := Shut.mk (HSP.out (by omega) (by omega))
  replace HIM := Shut.mk (HIM.out (by omega) (by omega))
  replace HEQ := Shut.mk (HEQ.out (by omega))
  clear r1 hr1 r0 HSZ
  have x0 := (H.out.bx 0 rfl 0 _ rfl).1
  have x1 := (H.out.bx 0 rfl 1 _ rfl).1
  have x2 := (H.out.bx 0 rfl 2 _ rfl).1
  go_upto_region 6 with (first
    | (go_at_call 8; refine (HTO.out _ H.out.bel).mono ?_; rintro e w2 ⟨aw2, cw2, rfl, hF, hc, hb⟩; replace H := Shut.mk (H.out.below hb); have HW := Shut.mk hF.crow; clear hb hF hc x0 x1 x2)
    | (go_at_call 7; refine (HSP.out _ _ _ HW.out).mono ?_; rintro e w3 ⟨rfl, hb⟩; replace H := Shut.mk (H.out.below hb); clear hb HW))
  have x0 := (H.out.bx 0 rfl 0 _ rfl).1
  have x1 := (H.out.bx 0 rfl 1 _ rfl).1
  have x2 := (H.out.bx 0 rfl 2 _ rfl).1
  go_upto_region 7 with (go_at_call 8; refine (HTO.out _ H.out.bel).mono ?_; rintro e w5 ⟨a5, c5, rfl, hF, hc5, hb⟩; have HS5 := Shut.mk (H.out.add (s := rwS a5 (unS us) _ w5.heap.size) hb hF (rwS.loc _ _ _ _) (Nat.le_refl _) (Nat.le_refl _)); clear hb hF x0 x1 x2 H)
  generalize w3.heap.size = l5 at HS5
  obtain ⟨h5, hh5⟩ : ∃ q, q = w5.heap.size := ⟨_, rfl⟩
  rw [← hh5] at HS5
  clear hh5
  obtain ⟨b5, hb5⟩ : ∃ q, q = w5.heap.size := ⟨_, rfl⟩
  refine wp_shade (fun W => SL w W [bxS b5 [.int .i64 id, .bool up, .slice a5 n c5], rwS a5 (unS us) l5 h5, bxS w.heap.size [.int .i64 id, .bool up, .slice a n cap]]) (by rw [hb5]; exact HS5.out.new _ _) ?_
  intro Wb5 hS
  have H := Shut.mk hS
  rw [← hb5]
  clear hS hb5 HS5
  have x0 := (H.out.bx 0 rfl 0 _ rfl).1
  have x1 := (H.out.bx 0 rfl 1 _ rfl).1
  have x2 := (H.out.bx 0 rfl 2 _ rfl).1
  go_upto_region 10 with (go_at_call 9; refine (HIM.out _ _ _ (show FRw _ _ _ _ _ from H.out.at 1 rfl).crow H.out.bel).mono ?_; rintro e w7 ⟨rfl, hb⟩; replace H := Shut.mk (H.out.below hb); clear hb x0 x1 x2)
  have HTX : Shut (∀ x, Later w7.drew x → SL w x [bxS b5 [.int .i64 id, .bool up, .slice a5 n c5], rwS a5 (unS us) l5 h5, bxS w.heap.size [.int .i64 id, .bool up, .slice a n cap]]) := ⟨fun x hx => H.out.below (Below.trans (Below.drew (Below.refl _ _)) hx)⟩
  have HLE : Shut (∀ x, Later w7.drew x → x.cell? ⟨b5, 0, none⟩ = some (.int .i64 id) ∧ x.cell? ⟨b5, 1, none⟩ = some (.bool up) ∧ x.cell? ⟨b5, 2, none⟩ = some (.slice a5 n c5) ∧ x.cell? ⟨w.heap.size, 0, none⟩ = some (.int .i64 id) ∧ x.cell? ⟨w.heap.size, 1, none⟩ = some (.bool up) ∧ x.cell? ⟨w.heap.size, 2, none⟩ = some (.slice a n cap)) := ⟨fun x hx => ⟨((HTX.out x hx).bx 0 rfl 0 _ rfl).1, ((HTX.out x hx).bx 0 rfl 1 _ rfl).1, ((HTX.out x hx).bx 0 rfl 2 _ rfl).1, ((HTX.out x hx).bx 2 rfl 0 _ rfl).1, ((HTX.out x hx).bx 2 rfl 1 _ rfl).1, ((HTX.out x hx).bx 2 rfl 2 _ rfl).1⟩⟩
  refine wp_region_set (fun _ => false) (by kernel_rfl) ?_
  refine wpD_val (i := 0) (v := ?v0) rfl (by kernel_rfl) (by kernel_rfl) (by kernel_rfl) (by kernel_rfl) (fun _ _ _ h => h) (by rfl) ?hy0 ?rest0
  case hy0 => (intro x hx; obtain ⟨d0, d1, d2, d3, d4, d5⟩ := HLE.out x hx; go_simp; try with_reducible rfl)
  try simp only [Act.put, List.setIfInBounds_toArray, List.set_cons_zero, List.set_cons_succ]
  refine wpD_val (i := 1) (v := ?v1) rfl (by kernel_rfl) (by kernel_rfl) (by kernel_rfl) (by kernel_rfl) (fun _ _ _ h => h) (by rfl) ?hy1 ?rest1
  case hy1 => (intro x hx; obtain ⟨d0, d1, d2, d3, d4, d5⟩ := HLE.out x hx; go_simp; try with_reducible rfl)
  try simp only [Act.put, List.setIfInBounds_toArray, List.set_cons_zero, List.set_cons_succ]
  refine wpD_onecall (f := 8) (args := #[.agg #[.int .i64 id, .bool up, .slice a n cap]]) (i := 2) (by kernel_rfl) rfl (by rfl) (fun x hx => by go_simp) (fun x hx => (HTO.out x (HTX.out x hx).bel).mono ?_)
  rintro e y ⟨a6, c6, rfl, hF, hc, hby⟩
  refine ⟨_, rfl, hby, ?_⟩
  have HT1 := Shut.mk ((HTX.out x hx).below hby)
  have HW := Shut.mk hF.crow
  clear hF hc hby hx
  try simp only [Act.put, List.setIfInBounds_toArray, List.set_cons_zero, List.set_cons_succ]
  refine wpD_onecall (f := 10) (args := #[.agg #[.int .i64 id, .bool up, .slice a5 n c5], .agg #[.int .i64 id, .bool up, .slice a6 n c6]]) (i := 3) (by kernel_rfl) rfl (by rfl) (fun x hx => by go_simp) (fun x hx => (HEQ.out x _ _ _ _ (show FRw _ _ _ _ _ from (HT1.out.below hx).at 1 rfl).crow (HW.out.stays hx)).mono ?_)
  rintro e y2 ⟨rfl, hby⟩
  refine ⟨_, rfl, hby, ?_⟩
  have HT2 := Shut.mk ((HT1.out.below hx).below hby)
  clear hby hx HT1 HW
  try simp only [Act.put, List.setIfInBounds_toArray, List.set_cons_zero, List.set_cons_succ]
  refine wpD_val (i := 4) (v := ?v4) rfl (by kernel_rfl) (by kernel_rfl) (by kernel_rfl) (by kernel_rfl) (fun _ _ _ h => h) (by rfl) ?hy4 ?rest4
  case hy4 => (intro x hx; go_simp; try with_reducible rfl)
  try simp only [Act.put, List.setIfInBounds_toArray, List.set_cons_zero, List.set_cons_succ]
  refine wpD_done (by kernel_rfl) ?_ _
  intro W6 hy6
  replace H := Shut.mk (HT2.out.below hy6)
  clear hy6 HT2 HTX HLE
  go_wp2_with fail
  go_ret
  exact ⟨rfl, H.out.bel⟩
end Go.Proofs.Ytoaifodmjkhiiaa
/- Draw: The draws of the models: a cursor over the bytes of a code. What is drawn lies within its bounds; nothing but the cursor's own block is turned. -/
namespace Go.Proofs.Ytoaifodmjkhiiaa
set_option maxRecDepth 100000
open Go.RowKit
attribute [local go_sem ↓] Go.wp_at_zero Go.wp_at_succ

/-- The code that is drawn from: a slice of bytes that came in, below block B. -/
def CodeAt (w : World) (B : Nat) (a : Option Addr) (len : Nat) : Prop :=
  len ≤ 1048576 ∧ (0 < len → ∃ b off, a = some ⟨b, off, none⟩ ∧ b < B ∧ ∀ j, j < len → ∃ x : Int, w.cell? ⟨b, off + j, none⟩ = some (.int .u8 x) ∧ 0 ≤ x ∧ x ≤ 255)
/-- The cursor in block g. -/
def Cur (w : World) (g B : Nat) (a : Option Addr) (len cap : Nat) : Prop :=
  B ≤ g ∧ g < w.heap.size ∧ CodeAt w B a len ∧ w.cell? ⟨g, 0, none⟩ = some (.slice a len cap) ∧
  (∃ i : Nat, w.cell? ⟨g, 1, none⟩ = some (.int .i64 i) ∧ i ≤ len) ∧ (∃ h : Int, w.cell? ⟨g, 2, none⟩ = some (.int .i64 h)) ∧
  (∀ j, j < 3 → w.frozen? ⟨g, j, none⟩ = false)
def BytePost (w : World) (g B : Nat) (a : Option Addr) (len cap : Nat) (e : Ending) (w' : World) : Prop :=
  ∃ x : Int, e = .returned (.int .i64 x) ∧ 0 ≤ x ∧ x ≤ 255 ∧ Cur w' g B a len cap ∧ w.grownBy w' (some g)

theorem and255 (n : Int) : 0 ≤ bits .and .i64 n 255 ∧ bits .and .i64 n 255 ≤ 255 := by
  have h255 : (BitVec.ofInt 64 255).toNat = 2 ^ 8 - 1 := by decide
  have key : (BitVec.ofInt 64 n &&& BitVec.ofInt 64 255).toNat = (n % ((2 ^ 64 : Nat) : Int)).toNat % 2 ^ 8 := by
    rw [BitVec.toNat_and, BitVec.toNat_ofInt, h255, Nat.and_two_pow_sub_one_eq_mod]
  have e : bits .and .i64 n 255 = n % 256 := by
    show IntKind.i64.wrap ((BitVec.ofInt 64 n &&& BitVec.ofInt 64 255).toNat : Nat) = n % 256
    rw [key, IntKind.wrap_i64]
    omega
  rw [e]; omega
theorem gb_set (w : World) (g i : Nat) (v : Value) : w.grownBy (w.setCell ⟨g, i, none⟩ v) (some g) :=
  ⟨rfl, rfl, rfl, by simp [World.setCell], fun k _ hk => Below.heap_setCell _ _ _ _ (fun e => hk (by rw [e]))⟩
theorem gb_drewN (w : World) (q : Nat) (row : Option Nat) : w.grownBy (w.drewN q) row := ⟨rfl, rfl, rfl, Nat.le_refl _, fun _ _ _ => rfl⟩
theorem gb_two {a b c : World} {row : Option Nat} (h : a.grownBy b row) (k : b.grownBy c row) : a.grownBy c row :=
  ⟨k.os.trans h.os, k.tape.trans h.tape, k.output.trans h.output, Nat.le_trans h.size k.size, fun i hi hn => (k.block i (Nat.lt_of_lt_of_le hi h.size) hn).trans (h.block i hi hn)⟩
theorem gb_below {w w' : World} {row : Option Nat} (h : Below w.heap.size w w') : w.grownBy w' row := ⟨h.os, h.tape, h.output, h.size, fun k hk _ => h.block k hk⟩
theorem below_gb {w w' : World} {g B : Nat} (h : w.grownBy w' (some g)) (hB : B ≤ g) (hs : B ≤ w.heap.size) : Below B w w' :=
  ⟨h.os, h.tape, h.output, h.size, fun k hk => h.block k (by omega) (by simp; omega)⟩
theorem CodeAt.gb {w w' : World} {B g len : Nat} {a : Option Addr} (h : CodeAt w B a len) (hg : w.grownBy w' (some g)) (hB : B ≤ g) : CodeAt w' B a len := by
  refine ⟨h.1, fun hl => ?_⟩
  obtain ⟨b, off, rfl, hb, hx⟩ := h.2 hl
  refine ⟨b, off, rfl, hb, fun j hj => ?_⟩
  obtain ⟨x, hc, h0, h1⟩ := hx j hj
  exact ⟨x, hg.cell hc (by simp; omega), h0, h1⟩
theorem CodeAt.below {w w' : World} {B C len : Nat} {a : Option Addr} (h : CodeAt w B a len) (hb : Below C w w') (hC : B ≤ C) : CodeAt w' B a len := by
  refine ⟨h.1, fun hl => ?_⟩
  obtain ⟨b, off, rfl, hlt, hx⟩ := h.2 hl
  refine ⟨b, off, rfl, hlt, fun j hj => ?_⟩
  obtain ⟨x, hc, h0, h1⟩ := hx j hj
  exact ⟨x, (hb.cell (p := ⟨b, off + j, none⟩) (Nat.lt_of_lt_of_le hlt hC)).trans hc, h0, h1⟩
/-- New blocks, and what turns none of the cursor's: the cursor stands. -/
theorem Cur.below {w w' : World} {g B len cap : Nat} {a : Option Addr} (h : Cur w g B a len cap) (hb : Below w.heap.size w w') : Cur w' g B a len cap := by
  obtain ⟨hB, hg, hcode, c0, ⟨i, c1, hi⟩, ⟨k, c2⟩, hf⟩ := h
  exact ⟨hB, Nat.lt_of_lt_of_le hg hb.size, hcode.below hb (by omega), (hb.cell (p := ⟨g, 0, none⟩) hg).trans c0, ⟨i, (hb.cell (p := ⟨g, 1, none⟩) hg).trans c1, hi⟩, ⟨k, (hb.cell (p := ⟨g, 2, none⟩) hg).trans c2⟩,
    fun j hj => (hb.frozen (p := ⟨g, j, none⟩) hg).trans (hf j hj)⟩
theorem Cur.seth {w : World} {g B len cap : Nat} {a : Option Addr} (h : Cur w g B a len cap) (k : Int) : Cur (w.setCell ⟨g, 2, none⟩ (.int .i64 k)) g B a len cap := by
  obtain ⟨hB, hg, hcode, c0, ⟨i, c1, hi⟩, ⟨k', c2⟩, hf⟩ := h
  exact ⟨hB, by simpa [World.setCell] using hg, hcode.gb (gb_set _ _ _ _) hB, (World.cell?_setCell_other _ _ _ _ (by simp)).trans c0, ⟨i, (World.cell?_setCell_other _ _ _ _ (by simp)).trans c1, hi⟩, ⟨k, World.cell?_setCell_same _ _ _ c2⟩,
    fun j hj => (World.frozen?_setCell _ _ _ _).trans (hf j hj)⟩
theorem Cur.seti {w : World} {g B len cap : Nat} {a : Option Addr} (h : Cur w g B a len cap) (i : Nat) (hi : i ≤ len) : Cur (w.setCell ⟨g, 1, none⟩ (.int .i64 i)) g B a len cap := by
  obtain ⟨hB, hg, hcode, c0, ⟨i', c1, _⟩, ⟨k, c2⟩, hf⟩ := h
  exact ⟨hB, by simpa [World.setCell] using hg, hcode.gb (gb_set _ _ _ _) hB, (World.cell?_setCell_other _ _ _ _ (by simp)).trans c0, ⟨i, World.cell?_setCell_same _ _ _ c1, hi⟩, ⟨k, (World.cell?_setCell_other _ _ _ _ (by simp)).trans c2⟩,
    fun j hj => (World.frozen?_setCell _ _ _ _).trans (hf j hj)⟩
theorem drewN_bel (B : Nat) (w : World) (q : Nat) : Below B w (w.drewN q) := ⟨rfl, rfl, rfl, Nat.le_refl _, fun _ _ => rfl⟩
theorem byte_more {w : World} {g B len cap i : Nat} {a : Option Addr} (h : Cur w g B a len cap) (hi : i < len) (k : Int) (q : Nat) (y : Int) (hy : y = ((i + 1 : Nat) : Int)) (x : Int) (h0 : 0 ≤ x) (h1 : x ≤ 255) :
    BytePost w g B a len cap (.returned (.int .i64 x)) (((w.setCell ⟨g, 2, none⟩ (.int .i64 k)).drewN q).setCell ⟨g, 1, none⟩ (.int .i64 y)) := by
  subst hy
  exact ⟨x, rfl, h0, h1, (((h.seth k).below (drewN_bel _ _ _)).seti (i + 1) (by omega)), gb_two (gb_two (gb_set _ _ _ _) (gb_drewN _ _ _)) (gb_set _ _ _ _)⟩
theorem byte_over2 {w : World} {g B len cap : Nat} {a : Option Addr} (h : Cur w g B a len cap) (k : Int) (q q' : Nat) (x : Int) (h0 : 0 ≤ x) (h1 : x ≤ 255) :
    BytePost w g B a len cap (.returned (.int .i64 x)) (((w.setCell ⟨g, 2, none⟩ (.int .i64 k)).drewN q).drewN q') :=
  ⟨x, rfl, h0, h1, (((h.seth k).below (drewN_bel _ _ _)).below (drewN_bel _ _ _)), gb_two (gb_two (gb_set _ _ _ _) (gb_drewN _ _ _)) (gb_drewN _ _ _)⟩

set_option maxHeartbeats 1000000 in
theorem l01Byte_any (w : World) (g B : Nat) (a : Option Addr) (len cap : Nat) (hc : Cur w g B a len cap) :
    Calls Try.prog 35 #[.pointer (some ⟨g, 0, none⟩)] w fun e w' => BytePost w g B a len cap e w' := by
  have HC : Hid (Cur w g B a len cap) := hc
  obtain ⟨hB, hg, hcode, c0, ⟨i, c1, hi⟩, ⟨h, c2⟩, hf⟩ := hc
  have f1 := hf 1 (by omega)
  have f2 := hf 2 (by omega)
  have hl := hcode.1
  by_cases hlt : i < len
  · obtain ⟨b, off, rfl, hb, hcx⟩ := hcode.2 (by omega)
    obtain ⟨x, c3, x0, x1⟩ := hcx i hlt
    have i0 : (0 : Int) ≤ (i : Int) := by omega
    have i1 : (i : Int) < (len : Int) := by omega
    have hne : b ≠ g := by omega
    clear hcode hf hcx
    go_enter Try.func35, Try.ntmps35
    go_wp2_with fail
    go_quiet (fail)
    go_wp2_with fail
    go_quiet (fail)
    go_wp2_with fail
    go_quiet (fail)
    go_wp2_with fail
    go_ret
    exact byte_more HC.out hlt _ _ _ (by first | omega | (simp only [wrap64]; omega)) _ (and255 _).1 (and255 _).2
  · have i1 : decide ((i : Int) < (len : Int)) = false := by simp; omega
    clear hcode hf
    go_enter Try.func35, Try.ntmps35
    go_wp2_with fail
    go_quiet (fail)
    go_wp2_with fail
    go_quiet (fail)
    go_wp2_with fail
    go_ret
    exact byte_over2 HC.out _ _ _ _ (and255 _).1 (and255 _).2

def BelowPost (w : World) (g B : Nat) (a : Option Addr) (len cap : Nat) (n : Int) (e : Ending) (w' : World) : Prop :=
  ∃ x : Int, e = .returned (.int .i64 x) ∧ 0 ≤ x ∧ (x < n ∨ x = 0) ∧ Cur w' g B a len cap ∧ w.grownBy w' (some g)
set_option maxHeartbeats 1000000 in
theorem l01Below_any (w : World) (g B : Nat) (a : Option Addr) (len cap : Nat) (n : Int) (hn : n ≤ 9223372036854775807) (hc : Cur w g B a len cap) :
    Calls Try.prog 36 #[.pointer (some ⟨g, 0, none⟩), .int .i64 n] w fun e w' => BelowPost w g B a len cap n e w' := by
  have HC : Hid (Cur w g B a len cap) := hc
  clear hc
  by_cases h0 : n ≤ 0
  · go_enter Try.func36, Try.ntmps36
    go_wp2_with fail
    go_ret
    exact ⟨0, rfl, by omega, .inr rfl, HC.out, gb_drewN w 0 _⟩
  · by_cases h1 : n ≤ 256
    · have hnz : (n == 0) = false := by rw [beq_eq_false_iff_ne]; omega
      go_enter Try.func36, Try.ntmps36
      go_wp2_with fail
      refine (l01Byte_any _ g B a len cap HC.out).mono ?_
      rintro e w1 ⟨x, rfl, x0, x1, hc1, hg1⟩
      have HC1 : Hid (Cur w1 g B a len cap) := hc1
      have HG : Hid _ := hg1
      clear hc1 hg1
      go_wp2_with fail
      go_ret
      exact ⟨x % n, rfl, Int.emod_nonneg _ (by omega), .inl (Int.emod_lt_of_pos _ (by omega)), HC1.out, HG.out⟩
    · go_enter Try.func36, Try.ntmps36
      go_wp2_with fail
      refine (l01Byte_any _ g B a len cap HC.out).mono ?_
      rintro e w1 ⟨x, rfl, x0, x1, hc1, hg1⟩
      have HC1 : Hid (Cur w1 g B a len cap) := hc1
      have HG1 : Hid (w.grownBy w1 (some g)) := hg1
      clear hc1 hg1
      go_wp2_with fail
      refine (l01Byte_any _ g B a len cap HC1.out).mono ?_
      rintro e w2 ⟨y, rfl, y0, y1, hc2, hg2⟩
      have HC2 : Hid (Cur w2 g B a len cap) := hc2
      have HG2 : Hid (w.grownBy w2 (some g)) := gb_two HG1.out hg2
      clear hc2 hg2
      go_wp2_with fail
      refine (l01Byte_any _ g B a len cap HC2.out).mono ?_
      rintro e w3 ⟨z, rfl, z0, z1, hc3, hg3⟩
      have HC3 : Hid (Cur w3 g B a len cap) := hc3
      have HG3 : Hid (w.grownBy w3 (some g)) := gb_two HG2.out hg3
      clear hc3 hg3
      go_wp2_with fail
      refine (l01Byte_any _ g B a len cap HC3.out).mono ?_
      rintro e w4 ⟨u, rfl, u0, u1, hc4, hg4⟩
      have HC4 : Hid (Cur w4 g B a len cap) := hc4
      have HG4 : Hid (w.grownBy w4 (some g)) := gb_two HG3.out hg4
      clear hc4 hg4
      go_wp2_with fail
      go_ret
      exact ⟨(x * 16777216 + y * 65536 + z * 256 + u) % n, rfl, Int.emod_nonneg _ (by omega), .inl (Int.emod_lt_of_pos _ (by omega)), HC4.out, HG4.out⟩
end Go.Proofs.Ytoaifodmjkhiiaa
/- DrawB: The draws of the models, on: a new cursor, a text that is drawn, a long one, a choice. -/
namespace Go.Proofs.Ytoaifodmjkhiiaa
set_option maxRecDepth 100000
open Go.RowKit

def NewPost (w : World) (a : Option Addr) (len cap : Nat) (e : Ending) (w' : World) : Prop :=
  ∃ g, e = .returned (.pointer (some ⟨g, 0, none⟩)) ∧ w.heap.size ≤ g ∧ Cur w' g w.heap.size a len cap ∧ Below w.heap.size w w'
theorem new_post {w : World} {a : Option Addr} {len cap : Nat} (hc : CodeAt w w.heap.size a len) (h : Int) :
    NewPost w a len cap (.returned (.pointer (some ⟨w.heap.size, 0, none⟩))) (w.alloc (.cells #[.slice a len cap, .int .i64 0, .int .i64 h] 88)) := by
  have hb : Below w.heap.size w (w.alloc (.cells #[.slice a len cap, .int .i64 0, .int .i64 h] 88)) := (Below.refl _ _).alloc (Nat.le_refl _) _
  refine ⟨_, rfl, Nat.le_refl _, ⟨Nat.le_refl _, by simp, hc.below hb (Nat.le_refl _), ?_, ⟨0, ?_, Nat.zero_le _⟩, ⟨h, ?_⟩, fun j hj => ?_⟩, hb⟩
  · rw [World.cell?_alloc_mark]; rfl
  · rw [World.cell?_alloc_mark]; rfl
  · rw [World.cell?_alloc_mark]; rfl
  · rw [World.frozen?_alloc_mark]; simp

set_option maxRecDepth 100000 in
set_option maxHeartbeats 1000000 in
theorem l01New_any (w : World) (a : Option Addr) (len cap : Nat) (hc : CodeAt w w.heap.size a len) :
    Calls Try.prog 34 #[.slice a len cap] w fun e w' => NewPost w a len cap e w' := by
  have hl := hc.1
  go_enter Try.func34, Try.ntmps34
  go_wp2_with fail
  go_loop [3, 4] (fun h i => ∃ (k : Nat) (hh : Int), h = .int .i64 hh ∧ i = .int .i64 k ∧ k ≤ len) (fun _ i => len - (intOf i).toNat)
  case atStart => exact ⟨0, _, rfl, rfl, Nat.zero_le _⟩
  case round =>
    obtain ⟨k, hh, rfl, rfl, hk⟩ := hrel
    by_cases hlt : k < len
    · by_cases h4 : k < 4000
      · obtain ⟨b, off, rfl, hb, hx⟩ := hc.2 (by omega)
        obtain ⟨x, cx, x0, x1⟩ := hx k hlt
        have k0 : (0 : Int) ≤ (k : Int) := by omega
        have k1 : (k : Int) < (len : Int) := by omega
        clear hx
        go_wp2_with fail
        go_round
        case rel => exact ⟨k + 1, _, rfl, by go_num, by omega⟩
        case measure => simp [intOf]; omega
      · have h4' : ¬ (k : Int) < 4000 := by omega
        go_wp2_with fail
        go_ret
        exact new_post hc _
    · go_wp2_with fail
      go_ret
      exact new_post hc _

def OncePost (w : World) (g B : Nat) (a : Option Addr) (len cap : Nat) (e : Ending) (w' : World) : Prop :=
  ∃ b : Bool, e = .returned (.bool b) ∧ Cur w' g B a len cap ∧ w.grownBy w' (some g)
theorem l01Once_any (w : World) (g B : Nat) (a : Option Addr) (len cap : Nat) (n : Int) (hn : n ≤ 9223372036854775807) (hc : Cur w g B a len cap) :
    Calls Try.prog 43 #[.pointer (some ⟨g, 0, none⟩), .int .i64 n] w fun e w' => OncePost w g B a len cap e w' := by
  have HC : Hid (Cur w g B a len cap) := hc
  clear hc
  go_enter Try.func43, Try.ntmps43
  go_wp2_with fail
  refine (l01Below_any _ g B a len cap n hn HC.out).mono ?_
  rintro e w1 ⟨x, rfl, x0, x1, hc1, hg1⟩
  have HC1 : Hid (Cur w1 g B a len cap) := hc1
  have HG : Hid (w.grownBy w1 (some g)) := hg1
  clear hc1 hg1
  go_wp2_with fail
  go_ret
  exact ⟨x == 0, rfl, HC1.out, HG.out⟩

def TextPost (w : World) (g B : Nat) (a : Option Addr) (len cap : Nat) (n : Nat) (e : Ending) (w' : World) : Prop :=
  ∃ t : ByteArray, e = .returned (.string t) ∧ t.size ≤ n ∧ Cur w' g B a len cap ∧ w.grownBy w' (some g)
def TextIs (w : World) (g B : Nat) (a : Option Addr) (len cap : Nat) (n : Nat) (e : Ending) (w' : World) : Prop :=
  ∃ t : ByteArray, e = .returned (.string t) ∧ t.size = n ∧ Cur w' g B a len cap ∧ w.grownBy w' (some g)
theorem text_step {w wr w2 w3 : World} {g B len cap : Nat} {a : Option Addr} {v v' : Value} {l : List UInt8} {x : Int} {o : Obj} (x0 : 0 ≤ x) (x1 : x ≤ 255) (hs : w.heap.size ≤ wr.heap.size) (hgw : g < w.heap.size)
    (hg : w.grownBy wr (some g)) (hg2 : wr.grownBy w2 (some g)) (hc2 : Cur w2 g B a len cap) (hown : w2.ownsRow w.heap.size 5 1 v l.length (bv l))
    (hown' : w3.ownsRow w.heap.size 5 1 v' (l.length + 1) (bv l ++ [.int .u8 x])) (hgr : (w2.alloc o).grownBy w3 v.ownBlock) :
    Cur w3 g B a len cap ∧ w.grownBy w3 (some g) ∧ w3.ownsRow w.heap.size 5 1 v' (l ++ [UInt8.ofNat x.toNat]).length (bv (l ++ [UInt8.ofNat x.toNat])) := by
  have hlt := hown.lt
  have h2s : wr.heap.size ≤ w2.heap.size := hg2.size
  have hb3 : Below w.heap.size w2 w3 := ((Below.refl _ _).alloc (by omega) o).grown hgr (by simp; omega) (fun j hj => (hlt j hj).1)
  refine ⟨?_, ⟨(hb3.os.trans hg2.os).trans hg.os, (hb3.tape.trans hg2.tape).trans hg.tape, (hb3.output.trans hg2.output).trans hg.output, by have := hb3.size; omega, fun k hk hn => (hb3.block k hk).trans ((hg2.block k (by omega) hn).trans (hg.block k hk hn))⟩, ?_⟩
  · obtain ⟨hB, hgs, hcode, c0, ⟨i, c1, hi⟩, ⟨k, c2⟩, hf⟩ := hc2
    refine ⟨hB, by have := hb3.size; omega, hcode.below hb3 (by omega), (hb3.cell (p := ⟨g, 0, none⟩) hgw).trans c0, ⟨i, (hb3.cell (p := ⟨g, 1, none⟩) hgw).trans c1, hi⟩, ⟨k, (hb3.cell (p := ⟨g, 2, none⟩) hgw).trans c2⟩, fun j hj => (hb3.frozen (p := ⟨g, j, none⟩) hgw).trans (hf j hj)⟩
  · rw [byte_of x x0 (by omega), bv_snoc] at hown'
    simpa using hown'
theorem own_gb {w w' : World} {g C : Nat} {v : Value} {l : List UInt8} (h : w.ownsRow C 5 1 v l.length (bv l)) (hg : w.grownBy w' (some g)) (hC : g < C) : w'.ownsRow C 5 1 v l.length (bv l) :=
  h.kept hg (by
    cases hv : v.ownBlock with
    | none => exact .inl rfl
    | some j => right; have := (h.lt j hv).1; simp; omega)

set_option maxHeartbeats 1000000 in
theorem l01Text_len (w : World) (g B : Nat) (a : Option Addr) (len cap : Nat) (n : Nat) (hn : n ≤ 5000) (hc : Cur w g B a len cap) :
    Calls Try.prog 44 #[.pointer (some ⟨g, 0, none⟩), .int .i64 n] w fun e w' => TextIs w g B a len cap n e w' := by
  obtain ⟨i0, hi, hz0, hz1, hz2⟩ := info_parts Try.info5
  have hgw := hc.2.1
  have HC : Hid (Cur w g B a len cap) := hc
  clear hc
  have hnd : decide ((5000 : Int) < n) = false := by simp; omega
  go_enter Try.func44, Try.ntmps44
  go_wp2_with fail
  go_loopw [5, 6] (fun v i wr => ∃ (k : Nat) (l : List UInt8), i = .int .i64 k ∧ k ≤ n ∧ l.length = k ∧ Cur wr g B a len cap ∧ w.grownBy wr (some g) ∧ wr.ownsRow w.heap.size 5 1 v l.length (bv l)) (fun _ i _ => n - (intOf i).toNat)
  case atStart => exact ⟨0, [], rfl, by omega, rfl, HC.out.below ((Below.refl _ _).alloc (Nat.le_refl _) _), gb_below ((Below.refl _ _).alloc (Nat.le_refl _) _), World.ownsRow_made w #[] 0 (Nat.le_refl _) (by decide) rfl⟩
  case round =>
    obtain ⟨k, l, rfl, hk, hlk, hc1, hg1, hown⟩ := hrel
    have HC1 : Hid (Cur wr g B a len cap) := hc1
    have HG1 : Hid (w.grownBy wr (some g)) := hg1
    have HL : Hid (l.length = k) := hlk
    have hll : l.length ≤ 5000 := by omega
    have hs1 := hg1.size
    clear hc1 hg1 hlk
    by_cases hlt : k < n
    · go_wp2_with fail
      refine (l01Byte_any _ g B a len cap HC1.out).mono ?_
      rintro e w2 ⟨x, rfl, x0, x1, hc2, hg2⟩
      have HC2 : Hid (Cur w2 g B a len cap) := hc2
      have HG2 : Hid (wr.grownBy w2 (some g)) := hg2
      have hown2 := own_gb hown hg2 hgw
      have hs2 := hg2.size
      clear hc2 hg2 hown
      go_wp2_with (at_builtin; refine wpList_append_own _ rfl _ _ 45 rfl w.heap.size 5 i0 (.int .u8 0) 1 1 Try.underlying45 hi hz0 hz1 hz2 rfl (by decide) _ _ _ rfl (hown2.alloc _) ⟨w2.heap.size, 0, none⟩ 1 1 [.int .u8 _] rfl rfl (cell_one_new _ _ _) ?c2 ?c3 ?c4 ?c5 ?_)
      case c2 => first | rfl | (intro u hu; simp at hu; subst hu; rfl)
      case c3 => unfold maxLen; omega
      case c4 => omega
      case c5 => first | omega | (simp; omega)
      · intro v' w3 hown' hgrow _
        obtain ⟨q1, q2, q3⟩ := text_step x0 x1 hs1 hgw HG1.out HG2.out HC2.out hown2 hown' hgrow
        clear hown' hgrow hown2
        go_wp2_with fail
        go_roundw
        case rel => exact ⟨k + 1, _, by go_num, by omega, by have := HL.out; simp; omega, q1, q2, q3⟩
        case measure => simp [intOf]; omega
    · have hcv := own_string hown
      go_wp2_with fail
      go_ret
      exact ⟨⟨l.toArray⟩, rfl, by have := HL.out; show l.length = n; omega, HC1.out, HG1.out⟩
theorem l01Text_any (w : World) (g B : Nat) (a : Option Addr) (len cap : Nat) (n : Nat) (hn : n ≤ 5000) (hc : Cur w g B a len cap) :
    Calls Try.prog 44 #[.pointer (some ⟨g, 0, none⟩), .int .i64 n] w fun e w' => TextPost w g B a len cap n e w' :=
  (l01Text_len w g B a len cap n hn hc).mono fun _ _ ⟨t, he, hs, h⟩ => ⟨t, he, Nat.le_of_eq hs, h⟩
end Go.Proofs.Ytoaifodmjkhiiaa
/- DrawP: The draws of a text and of places: what is drawn lies within its bounds; nothing that was there is turned. -/
namespace Go.Proofs.Ytoaifodmjkhiiaa
set_option maxRecDepth 100000
open Go.RowKit

def SumDrawn (w : World) (e : Ending) (w' : World) : Prop := ∃ t : ByteArray, e = .returned (.string t) ∧ t.size ≤ 40 ∧ Below w.heap.size w w'
theorem infoInt : (Try.prog.info? 3).map (fun i => (i.zero, i.size, i.bytes)) = some (some (.int .i64 0), 1, 8) := by kernel_rfl
/-- Numbers, as the model holds them. -/
def iv (l : List Int) : List Value := l.map fun x => .int .i64 x
theorem row_step {w wr w2 w3 : World} {g B len cap n : Nat} {t : TypeId} {a : Option Addr} {v : Value} {vs : List Value} {o : Obj} (hs : w.heap.size ≤ wr.heap.size) (hgw : g < w.heap.size)
    (hg : w.grownBy wr (some g)) (hg2 : wr.grownBy w2 (some g)) (hc2 : Cur w2 g B a len cap) (hown : w2.ownsRow w.heap.size t 1 v n vs) (hgr : (w2.alloc o).grownBy w3 v.ownBlock) :
    Cur w3 g B a len cap ∧ w.grownBy w3 (some g) := by
  have hlt := hown.lt
  have h2s : wr.heap.size ≤ w2.heap.size := hg2.size
  have hb3 : Below w.heap.size w2 w3 := ((Below.refl _ _).alloc (by omega) o).grown hgr (by simp; omega) (fun j hj => (hlt j hj).1)
  refine ⟨?_, ⟨(hb3.os.trans hg2.os).trans hg.os, (hb3.tape.trans hg2.tape).trans hg.tape, (hb3.output.trans hg2.output).trans hg.output, by have := hb3.size; omega, fun k hk hn => (hb3.block k hk).trans ((hg2.block k (by omega) hn).trans (hg.block k hk hn))⟩⟩
  obtain ⟨hB, hgs, hcode, c0, ⟨i, c1, hi⟩, ⟨k, c2⟩, hf⟩ := hc2
  exact ⟨hB, by have := hb3.size; omega, hcode.below hb3 (by omega), (hb3.cell (p := ⟨g, 0, none⟩) hgw).trans c0, ⟨i, (hb3.cell (p := ⟨g, 1, none⟩) hgw).trans c1, hi⟩, ⟨k, (hb3.cell (p := ⟨g, 2, none⟩) hgw).trans c2⟩, fun j hj => (hb3.frozen (p := ⟨g, j, none⟩) hgw).trans (hf j hj)⟩
theorem own_gbr {w w' : World} {g C n : Nat} {t : TypeId} {v : Value} {vs : List Value} (h : w.ownsRow C t 1 v n vs) (hg : w.grownBy w' (some g)) (hC : g < C) : w'.ownsRow C t 1 v n vs :=
  h.kept hg (by
    cases hv : v.ownBlock with
    | none => exact .inl rfl
    | some j => right; have := (h.lt j hv).1; simp; omega)
/-- The places that are drawn: twelve numbers below 10000 in a block of their own. -/
def PlacesDrawn (w : World) (e : Ending) (w' : World) : Prop :=
  ∃ (gp cap : Nat) (l : List Int), e = .returned (.slice (some ⟨gp, 0, none⟩) 12 cap) ∧ w.heap.size ≤ gp ∧ gp < w'.heap.size ∧ l.length = 12 ∧ (∀ x ∈ l, 0 ≤ x ∧ x < 10000) ∧ (∀ j, j < 12 → w'.cell? ⟨gp, j, none⟩ = some (.int .i64 (l.getD j 0))) ∧ Below w.heap.size w w'
theorem places_post {w w1 w' : World} {g n : Nat} {v : Value} {l : List Int} (hw : w.heap.size ≤ w1.heap.size) (hl : l.length = 12) (hx : ∀ x ∈ l, 0 ≤ x ∧ x < 10000) (hn : n = 12) (hown : w'.ownsRow w1.heap.size 3 1 v n (iv l)) (hb1 : Below w.heap.size w w1) (hg : w.heap.size ≤ g) (hgb : w1.grownBy w' (some g)) :
    PlacesDrawn w (.returned v) w' := by
  subst hn
  have hlt := hown.lt
  have hc : ∀ g, v.ownBlock = some g → ∀ j u, (iv l)[j]? = some u → w'.cell? ((⟨g, 0, none⟩ : Addr).add j) = some u := fun g hg => hown.cells hg
  obtain ⟨h1, ⟨rfl, h0⟩ | ⟨gp, cap, cur, rfl, _⟩⟩ := hown
  · omega
  · have h2 := hlt gp rfl
    refine ⟨gp, cap, l, rfl, by omega, h2.2, hl, hx, fun j hj => ?_, hb1.trans (below_gb hgb hg hw)⟩
    have h3 := hc gp rfl j (.int .i64 (l.getD j 0)) (by simp [iv, List.getD, show j < l.length by omega])
    have e : (⟨gp, 0, none⟩ : Addr).add j = ⟨gp, j, none⟩ := by cases j <;> simp [Addr.add]
    rwa [e] at h3
set_option maxHeartbeats 1000000 in
theorem drawPlaces_any (w : World) (a : Option Addr) (len cap : Nat) (hc : CodeAt w w.heap.size a len) :
    Calls Try.prog 22 #[.slice a len cap] w fun e w' => PlacesDrawn w e w' := by
  obtain ⟨i0, hi, hz0, hz1, hz2⟩ := info_parts infoInt
  have HC : Hid (CodeAt w w.heap.size a len) := hc
  clear hc
  go_enter Try.func22, Try.ntmps22
  go_wp2_with fail
  refine (l01New_any _ a len cap HC.out).mono ?_
  rintro e w0 ⟨g, rfl, hg, hcur, hb0⟩
  have HC0 : Hid (Cur w0 g w.heap.size a len cap) := hcur
  have HB0 : Hid (Below w.heap.size w w0) := hb0
  clear hcur hb0
  go_wp2_with fail
  refine (l01Byte_any _ g _ a len cap HC0.out).mono ?_
  rintro e w1 ⟨x, rfl, _, _, hc1, hg1⟩
  have HC1 : Hid (Cur w1 g w.heap.size a len cap) := hc1
  have HB1 : Hid (Below w.heap.size w w1) := HB0.out.trans (below_gb hg1 hg HB0.out.size)
  have hgw : g < w1.heap.size := hc1.2.1
  clear hc1 hg1 HC0 HB0
  go_wp2_with fail
  go_loopw [4, 5] (fun v i wr => ∃ (k : Nat) (l : List Int), i = .int .i64 k ∧ k ≤ 12 ∧ l.length = k ∧ (∀ x ∈ l, 0 ≤ x ∧ x < 10000) ∧ Cur wr g w.heap.size a len cap ∧ w1.grownBy wr (some g) ∧ wr.ownsRow w1.heap.size 3 1 v k (iv l)) (fun _ i _ => 12 - (intOf i).toNat)
  case atStart => exact ⟨0, [], rfl, by omega, rfl, by simp, HC1.out.below ((Below.refl _ _).alloc (Nat.le_refl _) _), gb_below ((Below.refl _ _).alloc (Nat.le_refl _) _), World.ownsRow_made w1 #[] 0 (Nat.le_refl _) (by decide) rfl⟩
  case round =>
    obtain ⟨k, l, rfl, hk, hlk, hlx, hcr, hgr, hown⟩ := hrel
    have HCr : Hid (Cur wr g w.heap.size a len cap) := hcr
    have HGr : Hid (w1.grownBy wr (some g)) := hgr
    have HL : Hid (l.length = k ∧ ∀ x ∈ l, 0 ≤ x ∧ x < 10000) := ⟨hlk, hlx⟩
    have hs1 := hgr.size
    clear hcr hgr hlk hlx
    by_cases hlt : k < 12
    · have hlt' : (k : Int) < 12 := by omega
      go_wp2_with fail
      refine (l01Below_any _ g _ a len cap 10000 (by omega) HCr.out).mono ?_
      rintro e w2 ⟨y, rfl, y0, y1, hc2, hg2⟩
      have HC2 : Hid (Cur w2 g w.heap.size a len cap) := hc2
      have HG2 : Hid (wr.grownBy w2 (some g)) := hg2
      have hown2 := own_gbr hown hg2 hgw
      have hs2 := hg2.size
      clear hc2 hg2 hown
      go_wp2_with (at_builtin; refine wpList_append_own _ rfl _ _ 35 rfl w1.heap.size 3 i0 (.int .i64 0) 1 8 Try.underlying35 hi hz0 hz1 hz2 rfl (by decide) _ _ _ rfl (hown2.alloc _) ⟨w2.heap.size, 0, none⟩ 1 1 [.int .i64 _] rfl rfl (cell_one_new _ _ _) ?c2 ?c3 ?c4 ?c5 ?_)
      case c2 => first | rfl | (intro u hu; simp at hu; subst hu; rfl)
      case c3 => unfold maxLen; omega
      case c4 => omega
      case c5 => first | omega | (simp; omega)
      · intro v' w3 hown' hgrow _
        obtain ⟨q1, q2⟩ := row_step hs1 hgw HGr.out HG2.out HC2.out hown2 hgrow
        have q3 : w3.ownsRow w1.heap.size 3 1 v' (k + 1) (iv (l ++ [y])) := by
          simpa [iv] using hown'
        clear hown' hgrow hown2
        go_wp2_with fail
        go_roundw
        case rel => exact ⟨k + 1, l ++ [y], by go_num, by omega, by have := HL.out.1; simp; omega, by intro x hx; rcases List.mem_append.1 hx with h | h; exact HL.out.2 x h; simp at h; subst h; omega, q1, q2, q3⟩
        case measure => simp [intOf]; omega
    · obtain rfl : k = 12 := by omega
      go_wp2_with fail
      go_ret
      exact places_post HB1.out.size HL.out.1 HL.out.2 rfl hown HB1.out hg HGr.out
theorem cell_block {w : World} {a : Addr} {v : Value} (h : w.cell? a = some v) : a.block < w.heap.size := by
  by_cases hb : a.block < w.heap.size
  · exact hb
  · unfold World.cell? at h
    rw [Array.getElem?_eq_none (by omega)] at h
    simp at h
theorem code_at {w : World} {a : Option Addr} {len cap : Nat} {zs : List Int} (hl : len ≤ 1048576)
    (h : (a = none ∧ len = 0) ∨ ∃ x, a = some x ∧ len ≤ cap ∧ zs.length = cap ∧ (∀ i, i < zs.length → w.cell? (x.add i) = some (.int .u8 (zs.getD i 0))) ∧ ∀ n ∈ zs, (Lit.int .u8 n).wf = true) : CodeAt w w.heap.size a len := by
  refine ⟨hl, fun hp => ?_⟩
  rcases h with ⟨_, h0⟩ | ⟨x, rfl, hlc, hz, hc, hw⟩
  · omega
  · obtain ⟨b, off, spot⟩ := x
    have hs : spot = none := by simpa [Addr.add] using World.cell?_spot (hc 0 (by omega))
    subst hs
    refine ⟨b, off, rfl, ?_, fun j hj => ?_⟩
    · have := cell_block (hc 0 (by omega)); simpa [Addr.add] using this
    · have h1 := hc j (by omega)
      have e : (⟨b, off, none⟩ : Addr).add j = ⟨b, off + j, none⟩ := by cases j <;> simp [Addr.add]
      rw [e] at h1
      have hm : zs.getD j 0 ∈ zs := by
        have : j < zs.length := by omega
        simp [List.getD, this]
      have := bounds_u8 (hw _ hm)
      exact ⟨_, h1, this.1, by omega⟩
theorem big_any (a : Option Addr) (len cap : Nat) (w : World) :
    Calls Try.prog 20 #[.slice a len cap] w fun e w' => e = .returned (.bool (decide ((1048576 : Int) < len))) ∧ w' = w := by
  go_enter Try.func20, Try.ntmps20
  go_wp2_with fail
  go_ret
  exact ⟨rfl, rfl⟩
end Go.Proofs.Ytoaifodmjkhiiaa
/- SpQ: The model's order of hosts. -/
namespace Go.Proofs.Ytoaifodmjkhiiaa
set_option maxRecDepth 100000
open Go.RowKit BigFrame
attribute [local go_sem ↓] Go.wp_at_zero Go.wp_at_succ

/-- Places, as the model holds them. -/
def ivN (L : List Nat) : List Value := L.map fun (x : Nat) => Value.int .i64 (x : Int)
theorem ivN_len (L : List Nat) : (ivN L).length = L.length := by simp [ivN]
theorem ivN_at (L : List Nat) (i : Nat) (h : i < L.length) : (ivN L)[i]? = some (.int .i64 (L.getD i 0 : Nat)) := by simp [ivN, List.getD, h]
theorem ivN_swap (L : List Nat) (k : Nat) : ((ivN L).set k (.int .i64 (L.getD (k - 1) 0 : Nat))).set (k - 1) (.int .i64 (L.getD k 0 : Nat)) = ivN (swapL L k) := by
  unfold ivN swapL
  rw [List.map_set, List.map_set]
def OrdPost (hs : List HM) (w : World) (e : Ending) (w' : World) : Prop := ∃ (v : Value) (L : List Nat), e = .returned v ∧ w'.ownsRow w.heap.size 3 1 v L.length (ivN L) ∧ OrdI hs L ∧ Below w.heap.size w w'
set_option maxRecDepth 100000 in
set_option maxHeartbeats 4000000 in
theorem specOrder (a : Option Addr) (rs : List HoR) (cap : Nat) (w : World) (hr : HsRow w a rs) (hl : rs.length ≤ 1048576) :
    Calls Try.prog 27 #[.slice a rs.length cap] w fun e w' => OrdPost (hms rs) w e w' := by
  obtain ⟨i0, hin, hz0, hz1, hz2⟩ := info_parts infoInt
  obtain ⟨n, hn⟩ : ∃ n, n = rs.length := ⟨_, rfl⟩
  have HN := Shut.mk hn
  rw [← hn] at hl ⊢
  have HR := Shut.mk hr
  obtain ⟨hs, hhs⟩ : ∃ q, q = hms rs := ⟨_, rfl⟩
  rw [← hhs]
  have HHS : Shut (hs.length = n ∧ ∀ k (hk : k < rs.length), hs.getD k default = rs[k].h) := ⟨⟨by rw [hhs, hms_len, hn], fun k hk => by rw [hhs]; simp [hms, List.getD, hk]⟩⟩
  clear hr hn hhs
  go_enter Try.func27, Try.ntmps27
  have HO0 := Shut.mk (OwS.new (ty := 3) (sz := 1) (SL.start w))
  go_upto_region 3 with fail
  go_loopw [3, 4] (fun v i9 wr => ∃ (k m : Nat) (L : List Nat), i9 = .int .i64 k ∧ k ≤ n ∧ m ≤ k ∧ Shut (L = upTo hs k ∧ m = L.length) ∧ Shut (OwS w wr [] 3 1 v m (ivN L))) (fun _ i9 _ => n - (intOf i9).toNat)
  case atStart => exact ⟨0, 0, [], rfl, Nat.zero_le _, Nat.le_refl _, ⟨rfl, rfl⟩, HO0⟩
  case round =>
    clear HO0
    obtain ⟨k, m, L, rfl, hk, hmk, HL, HW⟩ := hrel
    obtain ⟨av, cv, rfl⟩ := own_row_slice HW.out.own
    by_cases hlt : k < n
    · have hkr : k < rs.length := by rw [← HN.out]; exact hlt
      obtain ⟨b, off, r, rfl, hre, lb, hc⟩ := hs_at HR.out HW.out.sl.bel hkr
      obtain ⟨d0, d1, d2, d3⟩ := hc wr (Below.refl _ _)
      have k0 : (0 : Int) ≤ (k : Int) := by omega
      have k1 : (k : Int) < (n : Int) := by omega
      have HST : Shut (upTo hs (k + 1) = upTo hs k ++ if r.h.up = true then [k] else []) := ⟨by rw [upTo_step, HHS.out.2 k hkr, ← hre]⟩
      clear hc hre d3
      cases hup : r.h.up with
      | false =>
        rw [hup] at d1 HST
        go_wp2_with fail
        go_roundw
        case rel => exact ⟨k + 1, m, L, by go_num, by omega, by omega, ⟨by rw [HST.out]; simpa using HL.out⟩, HW⟩
        case measure => simp [intOf]; omega
      | true =>
        rw [hup] at d1 HST
        have hown := HW.out.own
        have hbs := HW.out.sl.bel.size
        go_wp2_with (at_builtin; refine wpList_append_own_at _ rfl _ _ 35 rfl w.heap.size 3 i0 (.int .i64 0) 1 8 Try.underlying35 hin hz0 hz1 hz2 rfl (by decide) _ _ _ rfl (hown.alloc _) ⟨wr.heap.size, 0, none⟩ 1 1 [.int .i64 (k : Int)] rfl rfl (cell_one_new _ _ _) ?c2 ?c3 ?c4 ?c5 ?_)
        case c2 => simp [Value.oneCell']
        case c3 => unfold maxLen; omega
        case c4 => omega
        case c5 => first | omega | (simp; omega)
        intro v9 w9 ho hg _ hat
        have HL9 := Shut.mk (HW.out.more ((Below.refl _ _).alloc (Nat.le_refl _) _) ho hg (by simpa using hat))
        clear ho hg hat hown hbs
        go_wp2_with fail
        go_roundw
        case rel => exact ⟨k + 1, m + 1, L ++ [k], by go_num, by omega, by omega, ⟨by rw [HST.out]; simp only [if_true]; rw [← HL.out.1], by rw [List.length_append, ← HL.out.2]; rfl⟩, ⟨by have q := HL9.out; rw [show ivN (L ++ [k]) = ivN L ++ [.int .i64 (k : Int)] by simp [ivN]]; exact q⟩⟩
        case measure => simp [intOf]; omega
    · obtain rfl : n = k := by omega
      have HUP : Shut (L.Pairwise (· < ·) ∧ ∀ x ∈ L, x < n) := ⟨by rw [HL.out.1]; exact ⟨upTo_up hs n, upTo_lt hs n⟩⟩
      obtain ⟨U, hU⟩ : ∃ U, U = L := ⟨_, rfl⟩
      have HUU : Shut (U.Pairwise (· < ·) ∧ (∀ x ∈ U, x < n) ∧ U.length = m ∧ U = upTo hs n) := ⟨by rw [hU]; exact ⟨HUP.out.1, HUP.out.2, HL.out.2.symm, HL.out.1⟩⟩
      rw [← hU] at HW
      clear HL HUP hU hlt
      go_upto_region 8 with fail
      go_loopw [5] (fun i9 wr => ∃ (i : Nat) (L : List Nat), i9 = .int .i64 i ∧ 1 ≤ i ∧ i ≤ m + 1 ∧ Shut (Sd (pk hs) L (min i m) ∧ L.Perm U ∧ (∀ t, i ≤ t → L[t]? = U[t]?)) ∧ Shut (wr.ownsRow w.heap.size 3 1 (.slice av m cv) m (ivN L) ∧ Below w.heap.size w wr)) (fun i9 _ => m + 1 - (intOf i9).toNat)
      case atStart => exact ⟨1, U, rfl, Nat.le_refl _, by omega, ⟨fun a b hab hb => by omega, List.Perm.refl _, fun t _ => rfl⟩, ⟨HW.out.own, HW.out.sl.bel⟩⟩
      case round =>
        clear HW
        obtain ⟨i, L, rfl, hi1, him, HS, HO⟩ := hrel
        by_cases hlt : i < m
        · have i1 : (i : Int) < (m : Int) := by omega
          have HLU : Shut (L.length = m ∧ ∀ x ∈ L, x < n) := ⟨⟨by rw [HS.out.2.1.length_eq]; exact HUU.out.2.2.1, fun x hx => HUU.out.2.1 x (HS.out.2.1.mem_iff.1 hx)⟩⟩
          have HMV : Shut (Mv (pk hs) L i i) := ⟨mv_start (by have q := HS.out.1; rw [Nat.min_eq_left (by omega)] at q; exact q) HS.out.2.1 HUU.out.1 HS.out.2.2 (by have := HLU.out.1; omega)⟩
          go_upto_region 11 with fail
          go_loopw [6] (fun i9 wr => ∃ (k : Nat) (L : List Nat), i9 = .int .i64 k ∧ k ≤ i ∧ Shut ((Mv (pk hs) L i k ∨ Sd (pk hs) L (i + 1)) ∧ L.Perm U ∧ (∀ t, i + 1 ≤ t → L[t]? = U[t]?)) ∧ Shut (wr.ownsRow w.heap.size 3 1 (.slice av m cv) m (ivN L) ∧ Below w.heap.size w wr)) (fun i9 _ => (intOf i9).toNat)
          case atStart => exact ⟨i, L, rfl, Nat.le_refl _, ⟨.inl HMV.out, HS.out.2.1, fun t ht => HS.out.2.2 t (by omega)⟩, HO⟩
          case round =>
            clear HO HS HLU HMV
            obtain ⟨k, L, rfl, hki, HS, HO⟩ := hrel
            by_cases hk0 : 0 < k
            · have hlen : L.length = m := by rw [HS.out.2.1.length_eq]; exact HUU.out.2.2.1
              have hkl : k < L.length := by omega
              have hk1l : k - 1 < L.length := by omega
              have hin9 : ∀ t, t < L.length → L.getD t 0 < n := fun t ht => HUU.out.2.1 _ (HS.out.2.1.mem_iff.1 (by rw [List.getD, List.getElem?_eq_getElem ht]; exact List.getElem_mem ht))
              obtain ⟨x, hx⟩ : ∃ x, x = L.getD (k - 1) 0 := ⟨_, rfl⟩
              obtain ⟨z, hz⟩ : ∃ z, z = L.getD k 0 := ⟨_, rfl⟩
              have hxn : x < rs.length := by rw [hx, ← HN.out]; exact hin9 _ hk1l
              have hzn : z < rs.length := by rw [hz, ← HN.out]; exact hin9 _ hkl
              obtain ⟨gv, rfl⟩ : ∃ gv, av = some ⟨gv, 0, none⟩ := by
                rcases HO.out.1.2 with ⟨_, e⟩ | ⟨gv, _, _, e, _⟩
                · omega
                · simp only [Value.slice.injEq] at e; exact ⟨gv, e.1⟩
              have hw0 := own_wcells HO.out.1
              obtain ⟨e0, -⟩ := hw0.2 (k - 1) _ (ivN_at L (k - 1) hk1l)
              obtain ⟨e1, -⟩ := hw0.2 k _ (ivN_at L k hkl)
              rw [← hx] at e0
              rw [← hz] at e1
              obtain ⟨b, off, r1, rfl, hr1, lb, hc1⟩ := hs_at HR.out HO.out.2 hxn
              obtain ⟨b', off', r2, e', hr2, lb', hc2⟩ := hs_at HR.out HO.out.2 hzn
              simp only [Option.some.injEq, Addr.mk.injEq, and_true] at e'
              obtain ⟨rfl, rfl⟩ := e'
              have HGT : Shut (gt2 (pk hs) x z = (decide (r2.h.us.length < r1.h.us.length) || (r1.h.us.length == r2.h.us.length && decide (r2.h.id < r1.h.id)))) := ⟨by
                unfold gt2 pk
                rw [HHS.out.2 x hxn, HHS.out.2 z hzn, ← hr1, ← hr2]
                rfl⟩
              have HYES : Shut (gt2 (pk hs) x z = true → Mv (pk hs) (swapL L k) i (k - 1)) := ⟨fun h => by
                rw [hx, hz] at h
                rcases HS.out.1 with q | q
                · exact q.swap hk0 hki (by omega) h
                · have := q.quiet hk0 hki
                  rw [h] at this
                  cases this⟩
              have HNOT : Shut (gt2 (pk hs) x z = false → Sd (pk hs) L (i + 1)) := ⟨fun h => by
                rw [hx, hz] at h
                rcases HS.out.1 with q | q
                · exact q.stop hk0 hki h
                · exact q⟩
              obtain ⟨⟨id1, up1, us1⟩, lo1, c1⟩ := r1
              obtain ⟨⟨id2, up2, us2⟩, lo2, c2⟩ := r2
              dsimp only at *
              have HLa0 := Shut.mk (fun W => specLoadOf ⟨id1, up1, us1⟩ lo1 c1 W)
              have HLb0 := Shut.mk (fun W => specLoadOf ⟨id2, up2, us2⟩ lo2 c2 W)
              dsimp only [hov] at HLa0 HLb0
              obtain ⟨l1, hl1⟩ : ∃ q, q = us1.length := ⟨_, rfl⟩
              obtain ⟨l2, hl2⟩ : ∃ q, q = us2.length := ⟨_, rfl⟩
              rw [← hl1] at hc1 HLa0 HGT
              rw [← hl2] at hc2 HLb0 HGT
              have HC1 := Shut.mk hc1
              have HC2 := Shut.mk hc2
              obtain ⟨d0, d1, d2, -⟩ := hc1 wr (Below.refl _ _)
              have HWO0 : Shut (OwS w wr [] 3 1 (.slice (some ⟨gv, 0, none⟩) m cv) m (ivN L)) := ⟨⟨⟨HO.out.2, fun s h => (by cases h), .nil⟩, HO.out.1, fun q e s h => (by cases h)⟩⟩
              have HWO1 := Shut.mk (HWO0.out.box #[.int .i64 id1, .bool up1, .slice lo1 l1 c1] 29)
              have k0 : (0 : Int) ≤ (k : Int) := by omega
              have k1 : (k : Int) < (m : Int) := by omega
              have km : (k : Int) - 1 = ((k - 1 : Nat) : Int) := by omega
              have k2 : (0 : Int) ≤ ((k - 1 : Nat) : Int) := by omega
              have k3 : ((k - 1 : Nat) : Int) < (m : Int) := by omega
              have x0 : (0 : Int) ≤ (x : Int) := by omega
              have x1 : (x : Int) < (n : Int) := by have := HN.out; omega
              have z0 : (0 : Int) ≤ (z : Int) := by omega
              have z1 : (z : Int) < (n : Int) := by have := HN.out; omega
              have hkp : (0 : Int) < (k : Int) := by omega
              have hkp2 : 0 < k := hk0
              have HX9 := Shut.mk hx
              have HZ9 := Shut.mk hz
              clear hw0 hc1 hc2 hr1 hr2 hl1 hl2 hin9 hx hz
              obtain ⟨bb1, hbb1⟩ : ∃ q, q = wr.heap.size := ⟨_, rfl⟩
              rw [← hbb1] at HWO1
              go_upto_region 14 with fail
              refine wp_shade (fun W => OwS w W [bxS bb1 [.int .i64 id1, .bool up1, .slice lo1 l1 c1]] 3 1 (.slice (some ⟨gv, 0, none⟩) m cv) m (ivN L) ∧ Below wr.heap.size wr W) ⟨HWO1.out, (Below.refl _ _).alloc (Nat.le_refl _) _⟩ ?_
              intro W14 hW
              rw [← hbb1]
              have HWO1 := Shut.mk hW.1
              have HBW := Shut.mk hW.2
              clear hW HWO0 hbb1 d0 d1 d2 e0 e1
              obtain ⟨d0, d1, d2, -⟩ := HC2.out W14 HBW.out
              have hw1 := own_wcells HWO1.out.own
              obtain ⟨e1, -⟩ := hw1.2 k _ (ivN_at L k hkl)
              rw [← HZ9.out] at e1
              clear hw1
              have HWO2 := Shut.mk (HWO1.out.box #[.int .i64 id2, .bool up2, .slice lo2 l2 c2] 29)
              obtain ⟨bb2, hbb2⟩ : ∃ q, q = W14.heap.size := ⟨_, rfl⟩
              rw [← hbb2] at HWO2
              go_upto_region 15 with fail
              refine wp_shade (fun W => OwS w W [bxS bb2 [.int .i64 id2, .bool up2, .slice lo2 l2 c2], bxS bb1 [.int .i64 id1, .bool up1, .slice lo1 l1 c1]] 3 1 (.slice (some ⟨gv, 0, none⟩) m cv) m (ivN L)) HWO2.out ?_
              intro W15 hW
              rw [← hbb2]
              have HW2 := Shut.mk hW
              have HWO := Shut.mk hW.tail.tail
              clear hW HWO1 HWO2 hbb2 d0 d1 d2 e1 HBW
              have lb1 : bb1 < W15.heap.size := (HW2.out.sl.at 1 rfl).1
              have lb2 : bb2 < W15.heap.size := (HW2.out.sl.at 0 rfl).1
              have p0 : ∀ X : Grow W15, X.val.cell? ⟨bb1, 0, none⟩ = some (.int .i64 id1) := fun X => X.cell (HW2.out.sl.bx 1 rfl 0 _ rfl).1 lb1
              have p1 : ∀ X : Grow W15, X.val.cell? ⟨bb1, 1, none⟩ = some (.bool up1) := fun X => X.cell (HW2.out.sl.bx 1 rfl 1 _ rfl).1 lb1
              have p2 : ∀ X : Grow W15, X.val.cell? ⟨bb1, 2, none⟩ = some (.slice lo1 l1 c1) := fun X => X.cell (HW2.out.sl.bx 1 rfl 2 _ rfl).1 lb1
              have q0 : ∀ X : Grow W15, X.val.cell? ⟨bb2, 0, none⟩ = some (.int .i64 id2) := fun X => X.cell (HW2.out.sl.bx 0 rfl 0 _ rfl).1 lb2
              have q1 : ∀ X : Grow W15, X.val.cell? ⟨bb2, 1, none⟩ = some (.bool up2) := fun X => X.cell (HW2.out.sl.bx 0 rfl 1 _ rfl).1 lb2
              have q2 : ∀ X : Grow W15, X.val.cell? ⟨bb2, 2, none⟩ = some (.slice lo2 l2 c2) := fun X => X.cell (HW2.out.sl.bx 0 rfl 2 _ rfl).1 lb2
              have HLa := Shut.mk (fun X => calls_grow (w := W15) (fun W' (_ : Below W15.heap.size W15 W') => HLa0.out W') X)
              have HLb := Shut.mk (fun X => calls_grow (w := W15) (fun W' (_ : Below W15.heap.size W15 W') => HLb0.out W') X)
              by_cases g1 : l2 < l1
              case pos =>
                have g1d : decide ((l2 : Int) < (l1 : Int)) = true := by simp; omega
                have g1e : decide (l2 < l1) = true := by simpa using g1
                have HG : Shut (gt2 (pk hs) x z = true) := ⟨by rw [HGT.out, g1e]; rfl⟩
                refine wp_region_grow (by kernel_rfl) (by kernel_rfl) ?_
                repeat (go_big_quiet_step (first | (go_at_call 7; first | with_reducible exact HLa.out _ | with_reducible exact HLb.out _)))
                refine wpQuiet_nil ?_
                rintro _ ⟨X, rfl⟩
                have HOX := Shut.mk (HWO.out.below X.bel)
                clear p0 p1 p2 q0 q1 q2
                obtain ⟨X, hX⟩ := X
                dsimp only at *
                have hwX := own_wcells HOX.out.own
                obtain ⟨f0, f0z⟩ := hwX.2 (k - 1) _ (ivN_at L (k - 1) hk1l)
                obtain ⟨f1, f1z⟩ := hwX.2 k _ (ivN_at L k hkl)
                rw [← HX9.out] at f0
                rw [← HZ9.out] at f1
                have hwY := hwX.set k (.int .i64 (x : Int)) (by rw [ivN_len]; exact hkl)
                obtain ⟨y0, y0z⟩ := hwY.2 (k - 1) (.int .i64 (x : Int)) (by rw [List.getElem?_set_ne (by omega), ivN_at L (k - 1) hk1l, ← HX9.out])
                have HNO := Shut.mk (((HOX.out.own.stored k (.int .i64 (x : Int))).1.stored (k - 1) (.int .i64 (z : Int))).1)
                rw [HX9.out, HZ9.out, ivN_swap, ← HX9.out, ← HZ9.out] at HNO
                have HBO : Shut (Below w.heap.size w ((X.setCell ⟨gv, k, none⟩ (.int .i64 (x : Int))).setCell ⟨gv, k - 1, none⟩ (.int .i64 (z : Int)))) := ⟨by
                  have hg := (HOX.out.own.lt gv rfl).1
                  exact (HOX.out.sl.bel.grown (gb_set' X gv k _) HOX.out.sl.bel.size (fun q e => by cases e; exact hg)).grown (gb_set' _ gv (k - 1) _) (by have := HOX.out.sl.bel.size; simp [World.setCell]; exact this) (fun q e => by cases e; exact hg)⟩
                clear hwX hwY
                go_wp2_with fail
                go_roundw
                case rel => exact ⟨k - 1, swapL L k, congrArg (Value.int .i64) (by omega), by omega, ⟨.inl (HYES.out HG.out), (swapL_perm L k hk0 hkl).trans HS.out.2.1, fun t ht => by
                  have q := swapL_at L k hk0 hkl t
                  have e1 : (swapL L k)[t]? = L[t]? := by
                    unfold swapL
                    rw [List.getElem?_set_ne (by omega), List.getElem?_set_ne (by omega)]
                  rw [e1]
                  exact HS.out.2.2 t ht⟩, ⟨HNO.out, HBO.out⟩⟩
                case measure => simp [intOf]; omega
              have g1d : decide ((l2 : Int) < (l1 : Int)) = false := by simp; omega
              have g1e : decide (l2 < l1) = false := by simpa using g1
              by_cases g2 : l1 = l2
              case neg =>
                have g2d : ((l1 : Int) == (l2 : Int)) = false := by simp; omega
                have g2e : (l1 == l2) = false := by simpa using g2
                have HG : Shut (gt2 (pk hs) x z = false) := ⟨by rw [HGT.out, g1e, g2e]; rfl⟩
                clear g2
                refine wp_region_grow (by kernel_rfl) (by kernel_rfl) ?_
                repeat (go_big_quiet_step (first | (go_at_call 7; first | with_reducible exact HLa.out _ | with_reducible exact HLb.out _)))
                refine wpQuiet_nil ?_
                rintro _ ⟨X, rfl⟩
                have HOX := Shut.mk (HWO.out.below X.bel)
                clear p0 p1 p2 q0 q1 q2
                go_wp2_with fail
                go_roundw
                case rel => exact ⟨k - 1, L, congrArg (Value.int .i64) (by omega), by omega, ⟨.inr (HNOT.out HG.out), HS.out.2⟩, ⟨HOX.out.own, HOX.out.sl.bel⟩⟩
                case measure => simp [intOf]; omega
              have g2d : ((l1 : Int) == (l2 : Int)) = true := by simp; omega
              have g2e : (l1 == l2) = true := by simpa using g2
              clear g2
              by_cases g3 : id2 < id1
              case pos =>
                have g3d : decide (id2 < id1) = true := by simpa using g3
                have HG : Shut (gt2 (pk hs) x z = true) := ⟨by rw [HGT.out, g1e, g2e, g3d]; rfl⟩
                refine wp_region_grow (by kernel_rfl) (by kernel_rfl) ?_
                repeat (go_big_quiet_step (first | (go_at_call 7; first | with_reducible exact HLa.out _ | with_reducible exact HLb.out _)))
                refine wpQuiet_nil ?_
                rintro _ ⟨X, rfl⟩
                have HOX := Shut.mk (HWO.out.below X.bel)
                clear p0 p1 p2 q0 q1 q2
                obtain ⟨X, hX⟩ := X
                dsimp only at *
                have hwX := own_wcells HOX.out.own
                obtain ⟨f0, f0z⟩ := hwX.2 (k - 1) _ (ivN_at L (k - 1) hk1l)
                obtain ⟨f1, f1z⟩ := hwX.2 k _ (ivN_at L k hkl)
                rw [← HX9.out] at f0
                rw [← HZ9.out] at f1
                have hwY := hwX.set k (.int .i64 (x : Int)) (by rw [ivN_len]; exact hkl)
                obtain ⟨y0, y0z⟩ := hwY.2 (k - 1) (.int .i64 (x : Int)) (by rw [List.getElem?_set_ne (by omega), ivN_at L (k - 1) hk1l, ← HX9.out])
                have HNO := Shut.mk (((HOX.out.own.stored k (.int .i64 (x : Int))).1.stored (k - 1) (.int .i64 (z : Int))).1)
                rw [HX9.out, HZ9.out, ivN_swap, ← HX9.out, ← HZ9.out] at HNO
                have HBO : Shut (Below w.heap.size w ((X.setCell ⟨gv, k, none⟩ (.int .i64 (x : Int))).setCell ⟨gv, k - 1, none⟩ (.int .i64 (z : Int)))) := ⟨by
                  have hg := (HOX.out.own.lt gv rfl).1
                  exact (HOX.out.sl.bel.grown (gb_set' X gv k _) HOX.out.sl.bel.size (fun q e => by cases e; exact hg)).grown (gb_set' _ gv (k - 1) _) (by have := HOX.out.sl.bel.size; simp [World.setCell]; exact this) (fun q e => by cases e; exact hg)⟩
                clear hwX hwY
                go_wp2_with fail
                go_roundw
                case rel => exact ⟨k - 1, swapL L k, congrArg (Value.int .i64) (by omega), by omega, ⟨.inl (HYES.out HG.out), (swapL_perm L k hk0 hkl).trans HS.out.2.1, fun t ht => by
                  have q := swapL_at L k hk0 hkl t
                  have e1 : (swapL L k)[t]? = L[t]? := by
                    unfold swapL
                    rw [List.getElem?_set_ne (by omega), List.getElem?_set_ne (by omega)]
                  rw [e1]
                  exact HS.out.2.2 t ht⟩, ⟨HNO.out, HBO.out⟩⟩
                case measure => simp [intOf]; omega
              have g3d : decide (id2 < id1) = false := by simpa using g3
              have HG : Shut (gt2 (pk hs) x z = false) := ⟨by rw [HGT.out, g1e, g2e, g3d]; rfl⟩
              refine wp_region_grow (by kernel_rfl) (by kernel_rfl) ?_
              repeat (go_big_quiet_step (first | (go_at_call 7; first | with_reducible exact HLa.out _ | with_reducible exact HLb.out _)))
              refine wpQuiet_nil ?_
              rintro _ ⟨X, rfl⟩
              have HOX := Shut.mk (HWO.out.below X.bel)
              clear p0 p1 p2 q0 q1 q2
              go_wp2_with fail
              go_roundw
              case rel => exact ⟨k - 1, L, congrArg (Value.int .i64) (by omega), by omega, ⟨.inr (HNOT.out HG.out), HS.out.2⟩, ⟨HOX.out.own, HOX.out.sl.bel⟩⟩
              case measure => simp [intOf]; omega
            · obtain rfl : k = 0 := by omega
              have HSD : Shut (Sd (pk hs) L (i + 1)) := ⟨by rcases HS.out.1 with h | h; exact h.done; exact h⟩
              go_wp2_with fail
              go_roundw
              case rel => exact ⟨i + 1, L, by go_num, by omega, by omega, ⟨by rw [Nat.min_eq_left (by omega)]; exact HSD.out, HS.out.2.1, HS.out.2.2⟩, HO⟩
              case measure => simp [intOf]; omega
        · have HE : Shut (OrdI hs L ∧ L.length = m) := ⟨by
            have q := HS.out.1
            rw [Nat.min_eq_right (by omega)] at q
            have hlm : L.length = m := by rw [HS.out.2.1.length_eq]; exact HUU.out.2.2.1
            refine ⟨⟨by rw [hlm]; exact q, ?_⟩, hlm⟩
            have e := HUU.out.2.2.2
            rw [HHS.out.1, ← e]
            exact HS.out.2.1⟩
          go_wp2_with fail
          go_ret
          exact ⟨_, L, rfl, by rw [HE.out.2]; exact HO.out.1, HE.out.1, HO.out.2⟩
end Go.Proofs.Ytoaifodmjkhiiaa
/- SpS: The model's PlaceGroup. -/
namespace Go.Proofs.Ytoaifodmjkhiiaa
set_option maxRecDepth 100000
open Go.RowKit BigFrame
attribute [local go_sem ↓] Go.wp_at_zero Go.wp_at_succ

theorem ord_pairs {hs : List HM} {L : List Nat} (h : OrdI hs L) : L.map (pk hs) = ordP hs := by
  refine ordP_of ?_ ?_
  · rw [← upTo_pairs]
    exact h.2.map _
  · rw [List.pairwise_map]
    refine List.pairwise_iff_getElem.2 fun a b ha hb hab => ?_
    have q := h.1 a b hab hb
    have e1 : L.getD a 0 = L[a] := by simp [List.getD, ha]
    have e2 : L.getD b 0 = L[b] := by simp [List.getD, hb]
    rw [e1, e2] at q
    rw [plLe_iff]
    unfold lt3 at q
    omega
theorem own_base {W : World} {B B' t sz n : Nat} {v : Value} {L : List Value} (h : W.ownsRow B t sz v n L) (hB : B' ≤ B) : W.ownsRow B' t sz v n L :=
  ⟨h.1, h.2.imp id fun ⟨g, c, cur, e, hb, r⟩ => ⟨g, c, cur, e, Nat.le_trans hB hb, r⟩⟩
def PlcPost (r : List Int × Bool) (w : World) (e : Ending) (w' : World) : Prop := ∃ v, e = .returned (.tuple #[v, .bool r.2]) ∧ w'.ownsRow w.heap.size 3 1 v r.1.length (iv r.1) ∧ Below w.heap.size w w'
set_option maxRecDepth 100000 in
set_option maxHeartbeats 2000000 in
theorem specPlaceGroup (a : Option Addr) (rs : List HoR) (cap : Nat) (x : Int) (w : World) (hr : HsRow w a rs) (hl : rs.length ≤ 1048576) :
    Calls Try.prog 12 #[.slice a rs.length cap, .int .i64 x] w fun e w' => PlcPost (plcX (hms rs) x) w e w' := by
  obtain ⟨i0, hin, hz0, hz1, hz2⟩ := info_parts infoInt
  have HOD := Shut.mk (specOrder a rs cap w hr hl)
  obtain ⟨n, hn⟩ : ∃ n, n = rs.length := ⟨_, rfl⟩
  have HN := Shut.mk hn
  have HR := Shut.mk hr
  obtain ⟨hs, hhs⟩ : ∃ q, q = hms rs := ⟨_, rfl⟩
  rw [← hhs]
  rw [← hhs] at HOD
  have HHS : Shut (hs.length = n ∧ ∀ k (hk : k < rs.length), hs.getD k default = rs[k].h) := ⟨⟨by rw [hhs, hms_len, hn], fun k hk => by rw [hhs]; simp [hms, List.getD, hk]⟩⟩
  rw [← hn] at HOD hl ⊢
  clear hr hn hhs
  obtain ⟨RR, hRR⟩ : ∃ q, q = plcX hs x := ⟨_, rfl⟩
  rw [← hRR]
  have HQ := Shut.mk hRR
  clear hRR
  go_enter Try.func12, Try.ntmps12
  go_upto_region 2 with (go_at_call 27; refine HOD.out.mono ?_; rintro e w1 ⟨v1, L, rfl, ho1, hod, hb1⟩; have HO1 := Shut.mk (And.intro ho1 hb1); have HI := Shut.mk hod; clear ho1 hb1 hod)
  obtain ⟨av, cv, rfl⟩ := own_row_slice HO1.out.1
  obtain ⟨m, hm⟩ : ∃ m, m = L.length := ⟨_, rfl⟩
  rw [← hm]
  rw [← hm] at HO1
  have HM := Shut.mk hm
  have HLN : Shut (∀ y ∈ L, y < n) := ⟨fun y hy => by have q := upTo_lt hs hs.length y (HI.out.2.mem_iff.1 hy); rw [HHS.out.1] at q; exact q⟩
  have hmn : m ≤ n := by
    have q := HI.out.2.length_eq
    have q2 := upTo_len hs hs.length
    have := HHS.out.1
    omega
  have HPR : Shut (ordP hs = L.map (pk hs) ∧ (ordP hs).length = m) := ⟨by rw [← ord_pairs HI.out]; exact ⟨rfl, by rw [List.length_map, hm]⟩⟩
  have HO2 : Shut (OwS w1 (w1.alloc (.cells #[] 3)) [] 3 1 (.slice (some ⟨w1.heap.size, 0, none⟩) 0 0) 0 []) := ⟨OwS.new (SL.start w1)⟩
  have HBB : Shut (∀ W, Below w1.heap.size w1 W → Below w.heap.size w W) := ⟨fun W h => HO1.out.2.trans (h.mono HO1.out.2.size)⟩
  have HWS : Shut (w.heap.size ≤ w1.heap.size) := ⟨HO1.out.2.size⟩
  have HRW : Shut (CRow w1 av (ivN L)) := ⟨(FRw.of_own HO1.out.1).1.crow⟩
  clear hm
  by_cases hx0 : x < 0
  case pos =>
    have HE : Shut (RR = ([], false)) := ⟨by rw [HQ.out]; unfold plcX; rw [if_neg (by omega)]⟩
    go_wp2_with fail
    go_ret2
    refine ⟨_, by rw [HE.out]; rfl, by rw [HE.out]; exact own_base HO2.out.own HWS.out, HBB.out _ HO2.out.sl.bel⟩
  by_cases hxm : (m : Int) < x
  case pos =>
    have HE : Shut (RR = ([], false)) := ⟨by rw [HQ.out]; unfold plcX; rw [HPR.out.2, if_neg (by omega)]⟩
    go_wp2_with fail
    go_ret2
    refine ⟨_, by rw [HE.out]; rfl, by rw [HE.out]; exact own_base HO2.out.own HWS.out, HBB.out _ HO2.out.sl.bel⟩
  obtain ⟨y, rfl⟩ := Int.eq_ofNat_of_zero_le (show 0 ≤ x by omega)
  have hym : y ≤ m := by omega
  have HE : Shut (RR = (((L.take y).map fun t => (pk hs t).2), true)) := ⟨by
    rw [HQ.out]
    unfold plcX
    rw [HPR.out.2, if_pos ⟨by omega, by omega⟩, HPR.out.1, Int.toNat_natCast, ← List.map_take, List.map_map]
    rfl⟩
  have hxm2 : ¬ (m : Int) < (y : Int) := by omega
  clear hxm HQ
  go_upto_region 6 with fail
  go_loopw [7, 8] (fun v i9 wr => ∃ (k : Nat), i9 = .int .i64 k ∧ k ≤ y ∧ Shut (OwS w1 wr [] 3 1 v k (iv ((L.take k).map fun t => (pk hs t).2)))) (fun _ i9 _ => y - (intOf i9).toNat)
  case atStart => exact ⟨0, rfl, Nat.zero_le _, HO2⟩
  case round =>
    clear HO2
    obtain ⟨k, rfl, hk, HW⟩ := hrel
    obtain ⟨av2, cv2, rfl⟩ := own_row_slice HW.out.own
    by_cases hlt : k < y
    · have hkl : k < L.length := by have := HM.out; omega
      obtain ⟨b1, o1, e1, lb1, hc1⟩ := (HRW.out.stays HW.out.sl.bel) (by rw [ivN_len]; omega)
      have hck := hc1 k _ (ivN_at L k hkl)
      obtain ⟨t, ht⟩ : ∃ t, t = L.getD k 0 := ⟨_, rfl⟩
      rw [← ht] at hck
      have htm : t ∈ L := by rw [ht, List.getD, List.getElem?_eq_getElem hkl]; exact List.getElem_mem hkl
      have htn : t < rs.length := by rw [← HN.out]; exact HLN.out t htm
      obtain ⟨b, off, r, e2, hre, lb, hc⟩ := hs_at HR.out (HBB.out _ HW.out.sl.bel) htn
      obtain ⟨d0, d1, d2, d3⟩ := hc wr (Below.refl _ _)
      have HNX : Shut (iv ((L.take (k + 1)).map fun t => (pk hs t).2) = iv ((L.take k).map fun t => (pk hs t).2) ++ [.int .i64 r.h.id]) := ⟨by
        have e3 : L[k] = t := by rw [ht, List.getD, List.getElem?_eq_getElem hkl]; rfl
        have e4 : (pk hs t).2 = r.h.id := by unfold pk; rw [HHS.out.2 t htn, ← hre]; rfl
        rw [List.take_succ_eq_append_getElem hkl, List.map_append, e3]
        unfold iv
        rw [List.map_append]
        simp [e4]⟩
      subst e1
      subst e2
      have k0 : (0 : Int) ≤ (k : Int) := by omega
      have k1 : (k : Int) < (m : Int) := by omega
      have k2 : (k : Int) < (y : Int) := by omega
      have t0 : (0 : Int) ≤ (t : Int) := by omega
      have t1 : (t : Int) < (n : Int) := by have := HN.out; omega
      have hown := HW.out.own
      have hbs := HW.out.sl.bel.size
      clear hc1 hc hre d1 d2 d3 ht htm
      go_wp2_with (at_builtin; refine wpList_append_own_at _ rfl _ _ 35 rfl w1.heap.size 3 i0 (.int .i64 0) 1 8 Try.underlying35 hin hz0 hz1 hz2 rfl (by decide) _ _ _ rfl (hown.alloc _) ⟨wr.heap.size, 0, none⟩ 1 1 [.int .i64 r.h.id] rfl rfl (cell_one_new _ _ _) ?c2 ?c3 ?c4 ?c5 ?_)
      case c2 => simp [Value.oneCell']
      case c3 => unfold maxLen; omega
      case c4 => omega
      case c5 => first | omega | (simp; omega)
      intro v9 w9 ho hg _ hat
      have HL9 := Shut.mk (HW.out.more ((Below.refl _ _).alloc (Nat.le_refl _) _) ho hg (by simpa using hat))
      rw [← List.map_take, ← HNX.out] at HL9
      clear ho hg hat hown hbs
      go_wp2_with fail
      go_roundw
      case rel => exact ⟨k + 1, by go_num, by omega, HL9⟩
      case measure => simp [intOf]; omega
    · obtain rfl : y = k := by omega
      go_wp2_with fail
      go_ret2
      refine ⟨_, by rw [HE.out]; rfl, ?_, HBB.out _ HW.out.sl.bel⟩
      rw [HE.out]
      have q := HW.out.own
      have e : ((L.take y).map fun t => (pk hs t).2).length = y := by rw [List.length_map, List.length_take]; have := HM.out; omega
      dsimp only
      rw [e]
      exact own_base q HWS.out
end Go.Proofs.Ytoaifodmjkhiiaa
/- HsB: Marks in rows of hosts. -/
namespace Go.Proofs.Ytoaifodmjkhiiaa
set_option maxRecDepth 100000
open Go.RowKit BigFrame
attribute [local go_sem ↓] Go.wp_at_zero Go.wp_at_succ

/-- One cell of a host of such a row is turned. -/
theorem GW.cell3 {w : World} {g lo hi : Nat} {rs : List HoR} (h : GW HK w g rs lo hi) (j : Nat) (hj : j < rs.length) (f : Nat) (hf : f < 3) (v : Value) (r : HoR) (hc : hC r = (hC rs[j]).set f v) (hl : r.loc = rs[j].loc) (hi' : r.h.us = rs[j].h.us) : GW HK (w.setCell ⟨g, j * 3 + f, none⟩ v) g (rs.set j r) lo hi := by
  have hin : ∀ s t : HoR, s.h.us = t.h.us → HK.inn s = HK.inn t := fun s t e => by show unS s.h.us = unS t.h.us; rw [e]
  refine ⟨?_, h.glo, h.ghi, fun s hs => ?_, ?_⟩
  · have q := h.out.set (j * 3 + f) v (by rw [HK.cells_len]; show j * 3 + f < rs.length * 3; omega)
    have e : (HK.cells rs).set (j * 3 + f) v = HK.cells (rs.set j r) := by
      apply List.ext_getElem?
      intro i
      by_cases hi : i < rs.length * 3
      · obtain ⟨a, b, hb, rfl⟩ : ∃ a b, b < 3 ∧ i = a * 3 + b := ⟨i / 3, i % 3, by omega, by omega⟩
        have ha : a < rs.length := by omega
        have e2 : (HK.cells (rs.set j r))[a * 3 + b]? = (hC ((rs.set j r)[a]'(by rw [List.length_set]; exact ha)))[b]? := HK.cells_get (rs.set j r) a (by rw [List.length_set]; exact ha) b hb
        have e1 : (HK.cells rs)[a * 3 + b]? = (hC rs[a])[b]? := HK.cells_get rs a ha b hb
        rw [e2, List.getElem?_set, List.getElem_set]
        by_cases hja : j = a
        · subst hja
          rw [if_pos rfl, hc, List.getElem?_set, hC_len]
          by_cases hfb : f = b
          · subst hfb
            rw [if_pos rfl, if_pos rfl, HK.cells_len, if_pos (by show j * 3 + f < rs.length * 3; omega), if_pos hf]
          · rw [if_neg (by omega), if_neg hfb, e1]
        · rw [if_neg (by omega), if_neg hja, e1]
      · have l1 : (HK.cells rs).length = rs.length * 3 := HK.cells_len rs
        have l2 : (HK.cells (rs.set j r)).length = rs.length * 3 := by rw [HK.cells_len, List.length_set]; rfl
        rw [List.getElem?_eq_none (by rw [List.length_set, l1]; omega), List.getElem?_eq_none (by rw [l2]; omega)]
    rw [e] at q
    exact q
  · rcases List.mem_or_eq_of_mem_set hs with q | rfl
    · rcases h.rows s q with e | ⟨b, e, q1, q2, q3, q4⟩
      · exact .inl e
      · exact .inr ⟨b, e, q1, q2, q3, WCells.turned q4 (Turned.of_grown (gb_set' w g (j * 3 + f) v) (Nat.le_refl _) (Nat.lt_succ_self _)) (by omega)⟩
    · rcases h.rows rs[j] (List.getElem_mem hj) with e | ⟨b, e, q1, q2, q3, q4⟩
      · exact .inl ((hin _ _ hi').trans e)
      · exact .inr ⟨b, hl.trans e, q1, q2, q3, by rw [hin _ _ hi']; exact WCells.turned q4 (Turned.of_grown (gb_set' w g (j * 3 + f) v) (Nat.le_refl _) (Nat.lt_succ_self _)) (by omega)⟩
  · refine List.pairwise_iff_getElem.2 fun a b ha hb hab h1 h2 => ?_
    rw [List.length_set] at ha hb
    have q := List.pairwise_iff_getElem.1 h.apart a b ha hb hab
    have same : ∀ c (hcl : c < rs.length), HK.inn ((rs.set j r)[c]'(by rw [List.length_set]; exact hcl)) = HK.inn rs[c] ∧ HK.loc ((rs.set j r)[c]'(by rw [List.length_set]; exact hcl)) = HK.loc rs[c] := fun c hcl => by
      rw [List.getElem_set]
      split
      · rename_i e; subst e; exact ⟨hin _ _ hi', hl⟩
      · exact ⟨rfl, rfl⟩
    rw [(same a ha).1] at h1
    rw [(same b hb).1] at h2
    rw [(same a ha).2, (same b hb).2]
    exact q h1 h2
/-- The units of a host of such a row are turned, as many as there were. -/
theorem GW.units {w w' : World} {g lo hi b : Nat} {rs : List HoR} (h : GW HK w g rs lo hi) (j : Nat) (hj : j < rs.length) (us : List UnM) (hlen : us.length = rs[j].h.us.length) (hne : 0 < us.length)
    (hb : rs[j].loc = some ⟨b, 0, none⟩) (hbg : b ≠ g) (h1 : lo ≤ b) (h2 : b < hi) (hg : w.grownBy w' (some b)) (hw : WCells w' b (unS us)) :
    GW HK w' g (rs.set j ⟨⟨rs[j].h.id, rs[j].h.up, us⟩, rs[j].loc, rs[j].cap⟩) lo hi := by
  have t : Turned w w' b (b + 1) := Turned.of_grown hg (Nat.le_refl _) (Nat.lt_succ_self _)
  have hinn : ∀ r : HoR, 0 < r.h.us.length → HK.inn r ≠ [] := fun r hr e => by
    have := congrArg List.length (show unS r.h.us = [] from e)
    rw [unS_len] at this
    simp at this
    omega
  have hsame : ∀ c (hc : c < rs.length), c ≠ j → (rs.set j (⟨⟨rs[j].h.id, rs[j].h.up, us⟩, rs[j].loc, rs[j].cap⟩ : HoR))[c]'(by rw [List.length_set]; exact hc) = rs[c] := fun c hc hcj => by rw [List.getElem_set_ne (Ne.symm hcj)]
  have hap : ∀ c (hc : c < rs.length), c ≠ j → HK.inn rs[c] ≠ [] → rs[c].loc ≠ rs[j].loc := fun c hc hcj h3 => by
    have hj0 : HK.inn rs[j] ≠ [] := hinn _ (by omega)
    rcases Nat.lt_or_gt_of_ne hcj with e | e
    · exact List.pairwise_iff_getElem.1 h.apart c j hc hj e h3 hj0
    · exact (List.pairwise_iff_getElem.1 h.apart j c hj hc e hj0 h3).symm
  refine ⟨?_, h.glo, h.ghi, fun s hs => ?_, ?_⟩
  · have e : HK.cells (rs.set j ⟨⟨rs[j].h.id, rs[j].h.up, us⟩, rs[j].loc, rs[j].cap⟩) = HK.cells rs := by
      apply List.ext_getElem?
      intro i
      by_cases hi : i < rs.length * 3
      · obtain ⟨a, c, hc, rfl⟩ : ∃ a c, c < 3 ∧ i = a * 3 + c := ⟨i / 3, i % 3, by omega, by omega⟩
        have ha : a < rs.length := by omega
        have e2 : (HK.cells (rs.set j (⟨⟨rs[j].h.id, rs[j].h.up, us⟩, rs[j].loc, rs[j].cap⟩ : HoR)))[a * 3 + c]? = (hC ((rs.set j (⟨⟨rs[j].h.id, rs[j].h.up, us⟩, rs[j].loc, rs[j].cap⟩ : HoR))[a]'(by rw [List.length_set]; exact ha)))[c]? := HK.cells_get _ a (by rw [List.length_set]; exact ha) c hc
        have e1 : (HK.cells rs)[a * 3 + c]? = (hC rs[a])[c]? := HK.cells_get rs a ha c hc
        rw [e2, e1, List.getElem_set]
        split
        · rename_i e; subst e; unfold hC; dsimp only; rw [hlen]
        · rfl
      · have l1 : (HK.cells rs).length = rs.length * 3 := HK.cells_len rs
        have l2 : (HK.cells (rs.set j (⟨⟨rs[j].h.id, rs[j].h.up, us⟩, rs[j].loc, rs[j].cap⟩ : HoR))).length = rs.length * 3 := by rw [HK.cells_len, List.length_set]; rfl
        rw [List.getElem?_eq_none (by rw [l2]; omega), List.getElem?_eq_none (by rw [l1]; omega)]
    rw [e]
    exact h.out.turned t (by omega)
  · obtain ⟨c, hc, rfl⟩ := List.getElem_of_mem hs
    have hc' : c < rs.length := by rw [List.length_set] at hc; exact hc
    by_cases hcj : c = j
    · subst hcj
      rw [List.getElem_set_self]
      exact .inr ⟨b, hb, h1, h2, hbg, hw⟩
    · rw [hsame c hc' hcj]
      rcases h.rows rs[c] (List.getElem_mem hc') with e | ⟨q, e, q1, q2, q3, q4⟩
      · exact .inl e
      · by_cases hq : HK.inn rs[c] = []
        · exact .inl hq
        · have hqb : q ≠ b := fun e2 => hap c hc' hcj hq (by
            have e3 : rs[c].loc = some ⟨q, 0, none⟩ := e
            rw [e3, hb, e2])
          exact .inr ⟨q, e, q1, q2, q3, q4.turned t (by omega)⟩
  · refine List.pairwise_iff_getElem.2 fun c d hc9 hd9 hcd h3 h4 => ?_
    have hc : c < rs.length := by rw [List.length_set] at hc9; exact hc9
    have hd : d < rs.length := by rw [List.length_set] at hd9; exact hd9
    have loc : ∀ z (hz : z < rs.length), HK.loc ((rs.set j (⟨⟨rs[j].h.id, rs[j].h.up, us⟩, rs[j].loc, rs[j].cap⟩ : HoR))[z]'(by rw [List.length_set]; exact hz)) = rs[z].loc := fun z hz => by
      rw [List.getElem_set]
      split
      · rename_i e; subst e; rfl
      · rfl
    rw [loc c hc, loc d hd]
    by_cases ec : c = j
    · subst ec
      rw [hsame d hd (by omega)] at h4
      exact (hap d hd (by omega) h4).symm
    · rw [hsame c hc ec] at h3
      by_cases ed : d = j
      · subst ed
        exact hap c hc ec h3
      · rw [hsame d hd ed] at h4
        exact List.pairwise_iff_getElem.1 h.apart c d hc hd hcd h3 h4
theorem mod3 (c : Nat) : ((c : Int).tmod 3 == 0) = (c % 3 == 0) := by
  have : (c : Int).tmod 3 = ((c % 3 : Nat) : Int) := by
    rw [Int.tmod_eq_emod_of_nonneg (by omega)]
    omega
  rw [this]
  cases h : c % 3 == 0 with
  | true => simp at h ⊢; omega
  | false => simp at h ⊢; omega
set_option maxRecDepth 100000 in
set_option maxHeartbeats 4000000 in
theorem markHostS_all (g : Nat) (rs : List HoR) (k9 ca lo hi : Nat) (w : World) (ha : GW HK w g rs lo hi) (hcp : ∀ r ∈ rs, r.h.us.length ≤ r.cap) (hk : 0 < k9) (hn : endH k9 (hms rs) ≤ 1000000000) :
    Calls Try.prog 17 #[.slice (some ⟨g, 0, none⟩) rs.length ca, .int .i64 k9] w fun e w' => e = .returned (.int .i64 (endH k9 (hms rs) : Nat)) ∧ ∃ ys : List HoR, ys.length = rs.length ∧ hms ys = marksH k9 (hms rs) ∧ (∀ r ∈ ys, r.h.us.length ≤ r.cap) ∧ GW HK w' g ys lo hi ∧ Turned w w' lo hi := by
  obtain ⟨n, hnn⟩ : ∃ n, n = rs.length := ⟨_, rfl⟩
  have HN := Shut.mk hnn
  obtain ⟨hs, hhs⟩ : ∃ q, q = hms rs := ⟨_, rfl⟩
  rw [← hnn, ← hhs]
  rw [← hhs] at hn
  have HHS := Shut.mk hhs
  have HA := Shut.mk ha
  have HCP := Shut.mk hcp
  have HL : Shut (hs.length = n) := ⟨by rw [hhs, hms_len, hnn]⟩
  have HEN : Shut (∀ j, endH k9 (hs.take j) ≤ endH k9 hs ∧ k9 ≤ endH k9 (hs.take j)) := ⟨fun j => by
    rw [endH_eq, endH_eq]
    have e1 : hs.length = (hs.take j).length + (hs.drop j).length := by rw [← List.length_append, List.take_append_drop]
    have e2 : (hs.map fun h => h.us.length).sum = ((hs.take j).map fun h => h.us.length).sum + ((hs.drop j).map fun h => h.us.length).sum := by rw [← List.sum_append, ← List.map_append, List.take_append_drop]
    omega⟩
  have hl : n ≤ 1000000000 := by have := endH_eq k9 hs; have := HL.out; omega
  clear ha hcp hnn hhs
  go_enter Try.func17, Try.ntmps17
  go_wp2_with fail
  go_loopw [1, 5] (fun v i wr => ∃ (j c : Nat) (ys : List HoR), i = .int .i64 j ∧ v = .int .i64 c ∧ j ≤ n ∧ Shut (c = endH k9 (hs.take j)) ∧ Shut (ys.length = n ∧ (∀ r ∈ ys, r.h.us.length ≤ r.cap) ∧ (∀ t (ht : t < n) (hy : t < ys.length) (hm : t < (marksH k9 hs).length), t < j → ys[t].h = (marksH k9 hs)[t]) ∧ (∀ t, j ≤ t → ys[t]? = rs[t]?)) ∧ Shut (GW HK wr g ys lo hi ∧ Turned w wr lo hi)) (fun _ i _ => n - (intOf i).toNat)
  case atStart => exact ⟨0, k9, rs, rfl, rfl, Nat.zero_le _, ⟨by simp [endH]⟩, ⟨HN.out.symm, HCP.out, fun t _ _ _ ht => by omega, fun t _ => rfl⟩, ⟨HA.out, Turned.refl _ _ _⟩⟩
  case round =>
    obtain ⟨j, c, ys, rfl, rfl, hj, HC, HY, HW⟩ := hrel
    by_cases hlt : j < n
    · have j0 : (0 : Int) ≤ (j : Int) := by omega
      have j1 : (j : Int) < (n : Int) := by omega
      have hjy : j < ys.length := by have := HY.out.1; omega
      have hjr : j < rs.length := by have := HN.out; omega
      have hyr : ys[j] = rs[j] := by
        have q := HY.out.2.2.2 j (Nat.le_refl _)
        rw [List.getElem?_eq_getElem hjy, List.getElem?_eq_getElem hjr] at q
        exact Option.some.inj q
      have hjs : j < hs.length := by have := HL.out; omega
      have hsj : hs[j] = ys[j].h := by rw [hyr]; simp [HHS.out, hms]
      have hcb : c + 2 + 4 * ys[j].h.us.length ≤ 1000000000 := by
        have q1 := HEN.out (j + 1)
        rw [endH_take k9 hs j hjs, ← HC.out, hsj] at q1
        omega
      have HNX : Shut (c + 2 + 4 * ys[j].h.us.length = endH k9 (hs.take (j + 1))) := ⟨by rw [endH_take k9 hs j hjs, ← HC.out, hsj]⟩
      have hc0 : 0 < c := by have := (HEN.out j).2; have := HC.out; omega
      obtain ⟨y, hy⟩ : ∃ y, y = ys[j] := ⟨_, rfl⟩
      have hw0 := HW.out.1.out
      obtain ⟨c0, z0⟩ := hw0.2 (j * 3) _ (HK.cells_get ys j hjy 0 (by decide))
      obtain ⟨c1, z1⟩ := hw0.2 (j * 3 + 1) _ (HK.cells_get ys j hjy 1 (by decide))
      obtain ⟨c2, z2⟩ := hw0.2 (j * 3 + 2) _ (HK.cells_get ys j hjy 2 (by decide))
      rw [← hy] at hcb HNX
      obtain ⟨q, hq⟩ : ∃ q, q = ((c + 1) % 3 == 0) := ⟨_, rfl⟩
      have hq2 : (((c : Int) + 1) % 3 == 0) = q := by
        rw [hq, ← mod3, Int.tmod_eq_emod_of_nonneg (by omega)]
        push_cast
        rfl
      have HG1 : Shut (GW HK (wr.setCell ⟨g, j * 3, none⟩ (.int .i64 c)) g (ys.set j ⟨⟨c, y.h.up, y.h.us⟩, y.loc, y.cap⟩) lo hi) := ⟨by
        have k := HW.out.1.cell3 j hjy 0 (by decide) (.int .i64 c) ⟨⟨c, y.h.up, y.h.us⟩, y.loc, y.cap⟩ (by rw [hy]; rfl) (by rw [hy]) (by rw [hy])
        rw [Nat.add_zero] at k
        exact k⟩
      have HG2 : Shut (GW HK ((wr.setCell ⟨g, j * 3, none⟩ (.int .i64 c)).setCell ⟨g, j * 3 + 1, none⟩ (.bool q)) g (ys.set j ⟨⟨c, q, y.h.us⟩, y.loc, y.cap⟩) lo hi) := ⟨by
        have k := HG1.out.cell3 j (by rw [List.length_set]; exact hjy) 1 (by decide) (.bool q) ⟨⟨c, q, y.h.us⟩, y.loc, y.cap⟩ (by rw [List.getElem_set_self]; rfl) (by rw [List.getElem_set_self]) (by rw [List.getElem_set_self])
        rw [List.set_set] at k
        exact k⟩
      have HT2 : Shut (Turned w ((wr.setCell ⟨g, j * 3, none⟩ (.int .i64 c)).setCell ⟨g, j * 3 + 1, none⟩ (.bool q)) lo hi) := ⟨(HW.out.2.trans (Turned.of_grown (gb_set' _ g _ _) HW.out.1.glo HW.out.1.ghi)).trans (Turned.of_grown (gb_set' _ g _ _) HW.out.1.glo HW.out.1.ghi)⟩
      have HMK : Shut (∀ m, m = y.h.us.length → (⟨(c : Nat), q, marksU (c + 2) m⟩ : HM) = (marksH k9 hs)[j]'(by rw [marksH_len]; exact hjs)) := ⟨fun m hm => by rw [marksH_at k9 hs j hjs, ← HC.out, hq, hm, hsj, ← hy]⟩
      have HCY : Shut (y.h.us.length ≤ y.cap) := ⟨by rw [hy]; exact HY.out.2.1 _ (List.getElem_mem hjy)⟩
      have HDONE : Shut (∀ (m : Nat) (r : HoR), m = y.h.us.length → r.h = ⟨(c : Nat), q, marksU (c + 2) m⟩ → r.cap = y.cap → ((ys.set j r).length = n ∧ (∀ s ∈ ys.set j r, s.h.us.length ≤ s.cap) ∧ (∀ t (ht : t < n) (h1 : t < (ys.set j r).length) (hm : t < (marksH k9 hs).length), t < j + 1 → (ys.set j r)[t].h = (marksH k9 hs)[t]) ∧ (∀ t, j + 1 ≤ t → (ys.set j r)[t]? = rs[t]?))) := ⟨fun m r hm hr hrc => ⟨by rw [List.length_set]; exact HY.out.1, fun s hs9 => by
          rcases List.mem_or_eq_of_mem_set hs9 with e | rfl
          · exact HY.out.2.1 s e
          · rw [hr, hrc]; show (marksU (c + 2) m).length ≤ y.cap; rw [marksU_len, hm]; exact HCY.out, fun t ht h1 h2 htj => by
          rw [List.length_set] at h1
          rw [List.getElem_set]
          split
          · rename_i e; subst e; rw [hr]; exact HMK.out m hm
          · exact HY.out.2.2.1 t ht h1 h2 (by omega), fun t ht => by rw [List.getElem?_set_ne (by omega)]; exact HY.out.2.2.2 t (by omega)⟩⟩
      obtain ⟨m, hm⟩ : ∃ m, m = y.h.us.length := ⟨_, rfl⟩
      have at9 : ∀ (r : HoR) (W : World), GW HK W g (ys.set j r) lo hi → ∀ f v, f < 3 → (hC r)[f]? = some v → W.cell? ⟨g, j * 3 + f, none⟩ = some v ∧ W.frozen? ⟨g, j * 3 + f, none⟩ = false := fun r W h f v hf hv => h.out.2 (j * 3 + f) v (by
        have k := HK.cells_get (ys.set j r) j (by rw [List.length_set]; exact hjy) f hf
        rw [List.getElem_set_self] at k
        exact k.trans hv)
      obtain ⟨a1, b1⟩ := at9 _ _ HG1.out 1 _ (by omega) rfl
      obtain ⟨a2, b2⟩ := at9 _ _ HG2.out 2 _ (by omega) rfl
      have HROW : Shut (y.h.us = [] ∨ ∃ b, y.loc = some ⟨b, 0, none⟩ ∧ lo ≤ b ∧ b < hi ∧ b ≠ g ∧ WCells ((wr.setCell ⟨g, j * 3, none⟩ (.int .i64 c)).setCell ⟨g, j * 3 + 1, none⟩ (.bool q)) b (unS y.h.us)) := ⟨by
        rcases HG2.out.rows ⟨⟨c, q, y.h.us⟩, y.loc, y.cap⟩ (List.mem_set hjy _) with e | h
        · left
          have e1 : unS y.h.us = [] := e
          have e3 := congrArg List.length e1
          rw [unS_len] at e3
          exact List.eq_nil_of_length_eq_zero (by simp at e3; omega)
        · exact .inr h⟩
      have HCW : Shut (((c + 2 : Nat) : Int) = (c : Int) + 1 + 1) := ⟨by omega⟩
      rw [← hm] at a2 hcb HNX
      have HM9 := Shut.mk hm
      have HSS : Shut (∀ us9, (ys.set j (⟨⟨c, q, y.h.us⟩, y.loc, y.cap⟩ : HoR)).set j ⟨⟨c, q, us9⟩, y.loc, y.cap⟩ = ys.set j ⟨⟨c, q, us9⟩, y.loc, y.cap⟩) := ⟨fun us9 => by rw [List.set_set]⟩
      have HGJ : Shut ((ys.set j (⟨⟨c, q, y.h.us⟩, y.loc, y.cap⟩ : HoR))[j]'(by rw [List.length_set]; exact hjy) = ⟨⟨c, q, y.h.us⟩, y.loc, y.cap⟩) := ⟨List.getElem_set_self _⟩
      have hlj : j < (ys.set j (⟨⟨c, q, y.h.us⟩, y.loc, y.cap⟩ : HoR)).length := by rw [List.length_set]; exact hjy
      clear hw0 c1 z1 c2 z2 at9 hq hm hyr hsj hy
      by_cases hm0 : m = 0
      · have HZ := Shut.mk (fun W => markUnitS_zero y.loc (c + 2) y.cap W)
        simp only [HCW.out] at HZ
        have HNIL : Shut (y.h.us = []) := ⟨List.eq_nil_of_length_eq_zero (by have := HM9.out; omega)⟩
        subst hm0
        go_wp2_with (go_at_call 32; refine (HZ.out _).mono ?_; rintro e w3 ⟨rfl, hw3⟩; subst hw3)
        go_roundw
        case rel => exact ⟨j + 1, c + 2, ys.set j ⟨⟨c, q, []⟩, y.loc, y.cap⟩, by go_num, congrArg (Value.int .i64) (by omega), by omega, ⟨by have := HNX.out; omega⟩, ⟨HDONE.out 0 _ HM9.out rfl rfl⟩, ⟨by have k := HG2.out; rw [HNIL.out] at k; exact k, HT2.out⟩⟩
        case measure => simp [intOf]; omega
      · obtain ⟨b, hb, hb1, hb2, hbg, hbw⟩ : ∃ b, y.loc = some ⟨b, 0, none⟩ ∧ lo ≤ b ∧ b < hi ∧ b ≠ g ∧ WCells ((wr.setCell ⟨g, j * 3, none⟩ (.int .i64 c)).setCell ⟨g, j * 3 + 1, none⟩ (.bool q)) b (unS y.h.us) := by
          rcases HROW.out with e | h
          · exact absurd (by have := HM9.out; rw [e] at this; exact this) hm0
          · exact h
        have HMU := Shut.mk (markUnitS_all b y.h.us (c + 2) y.cap _ hbw (by omega) (by have := HM9.out; omega) HCY.out)
        rw [← HM9.out, ← hb, HCW.out] at HMU
        have HBB := Shut.mk (And.intro hb (And.intro hb1 (And.intro hb2 hbg)))
        clear hbw hb hb1 hb2 hbg
        go_wp2_with (go_at_call 32; refine HMU.out.mono ?_; rintro e w3 ⟨rfl, hw3, hg3⟩; have HW3 := Shut.mk (And.intro hw3 hg3); clear hw3 hg3)
        have HG3 : Shut (GW HK w3 g (ys.set j ⟨⟨c, q, marksU (c + 2) m⟩, y.loc, y.cap⟩) lo hi ∧ Turned w w3 lo hi) := ⟨by
          have k := HG2.out.units j hlj (marksU (c + 2) m) (by rw [marksU_len, HGJ.out]; exact HM9.out) (by rw [marksU_len]; omega) (b := b) (by rw [HGJ.out]; exact HBB.out.1) HBB.out.2.2.2 HBB.out.2.1 HBB.out.2.2.1 HW3.out.2 HW3.out.1
          rw [HGJ.out] at k
          dsimp only at k
          rw [HSS.out] at k
          exact ⟨k, HT2.out.trans (Turned.of_grown HW3.out.2 HBB.out.2.1 HBB.out.2.2.1)⟩⟩
        go_roundw
        case rel => exact ⟨j + 1, c + 2 + 4 * m, ys.set j ⟨⟨c, q, marksU (c + 2) m⟩, y.loc, y.cap⟩, by go_num, rfl, by omega, HNX, ⟨HDONE.out m _ HM9.out rfl rfl⟩, HG3⟩
        case measure => simp [intOf]; omega
    · obtain rfl : n = j := by omega
      have HE : Shut (c = endH k9 hs) := ⟨by rw [HC.out, List.take_of_length_le (by rw [HL.out]; exact Nat.le_refl _)]⟩
      have HM : Shut (hms ys = marksH k9 hs) := ⟨by
        apply List.ext_getElem
        · rw [hms_len, marksH_len, HL.out, HY.out.1]
        · intro t h1 h2
          rw [hms_len] at h1
          have q := HY.out.2.2.1 t (by have := HY.out.1; omega) h1 h2 (by have := HY.out.1; omega)
          simp only [hms, List.getElem_map]
          exact q⟩
      go_wp2_with fail
      go_ret
      exact ⟨by rw [HE.out]; rfl, ys, HY.out.1, HM.out, HY.out.2.1, HW.out.1, HW.out.2⟩
end Go.Proofs.Ytoaifodmjkhiiaa
/- SpnB: Rows of numbers as values; the walk of the model's Spans. -/
namespace Go.Proofs.Ytoaifodmjkhiiaa
set_option maxRecDepth 100000
open Go.RowKit
attribute [local go_sem ↓] Go.wp_at_zero Go.wp_at_succ

/-- A value that is these numbers, in memory of its own. -/
def IAns (w : World) (v : Value) (xs : List Int) (lo hi : Nat) : Prop := ∃ (a : Option Addr) (cap : Nat), v = .slice a xs.length cap ∧ xs.length ≤ cap ∧ (xs = [] ∨ ∃ g, a = some ⟨g, 0, none⟩ ∧ lo ≤ g ∧ g < hi ∧ WCells w g (ics xs))
theorem IAns.empty (w : World) (a : Option Addr) (cap lo hi : Nat) : IAns w (.slice a 0 cap) [] lo hi := ⟨a, cap, rfl, Nat.zero_le _, .inl rfl⟩
theorem IAns.crow {w : World} {v : Value} {xs : List Int} {lo hi : Nat} (h : IAns w v xs lo hi) : ∃ a cap, v = .slice a xs.length cap ∧ CRow w a (ics xs) := by
  obtain ⟨a, cap, e, _, q⟩ := h
  refine ⟨a, cap, e, ?_⟩
  rcases q with rfl | ⟨g, rfl, _, _, q⟩
  · intro h; simp [ics] at h
  · exact q.crow
theorem IAns.turned {w w' : World} {v : Value} {xs : List Int} {lo hi lo' hi' : Nat} (h : IAns w v xs lo hi) (t : Turned w w' lo' hi') (hd : hi ≤ lo' ∨ hi' ≤ lo) : IAns w' v xs lo hi := by
  obtain ⟨a, cap, e, hc, q⟩ := h
  refine ⟨a, cap, e, hc, ?_⟩
  rcases q with rfl | ⟨g, rfl, h1, h2, h3⟩
  · exact .inl rfl
  · exact .inr ⟨g, rfl, h1, h2, h3.turned t (by omega)⟩
theorem IAns.below {w w' : World} {v : Value} {xs : List Int} {lo hi : Nat} (h : IAns w v xs lo hi) (hb : Below w.heap.size w w') : IAns w' v xs lo hi := by
  obtain ⟨a, cap, e, hc, q⟩ := h
  refine ⟨a, cap, e, hc, ?_⟩
  rcases q with rfl | ⟨g, rfl, h1, h2, h3⟩
  · exact .inl rfl
  · exact .inr ⟨g, rfl, h1, h2, h3.below hb h3.1⟩
def IPost (xs : List Int) (w : World) (e : Ending) (w' : World) : Prop := ∃ v, e = .returned v ∧ IAns w' v xs w.heap.size w'.heap.size ∧ Below w.heap.size w w'
theorem own_ians {w w' : World} {v : Value} {xs : List Int} {n : Nat} (hn : xs.length = n) (h : w'.ownsRow w.heap.size 3 1 v n (ics xs)) : IAns w' v xs w.heap.size w'.heap.size := by
  have hlt := h.lt
  have hown := h
  subst hn
  obtain ⟨_, ⟨rfl, h0⟩ | ⟨g, cap, cur, rfl, hB, hcur, hn, _⟩⟩ := h
  · have : xs = [] := List.eq_nil_of_length_eq_zero h0
    subst this
    exact IAns.empty _ _ _ _ _
  · exact ⟨_, cap, rfl, hn, .inr ⟨g, rfl, hB, (hlt g rfl).2, own_wcells hown⟩⟩
/-- The lengths of the groups of so many bytes. -/
def spanL (S n : Nat) : List Int := List.replicate ((n - 1) / S) (S : Int) ++ [((n - (n - 1) / S * S : Nat) : Int)]
def spansX (s n : Int) : List Int := if schOk s = true ∧ 1 ≤ n ∧ n ≤ 1000 then spanL (groupN s) n.toNat else []
theorem spansX_no {s n : Int} (h : ¬ (schOk s = true ∧ 1 ≤ n ∧ n ≤ 1000)) : spansX s n = [] := if_neg h
theorem group_pos {s : Int} (h : schOk s = true) : 16 ≤ groupN s := by have := (sch_bounds h).1; unfold groupN; omega
theorem group_zero {s : Int} (h : schOk s = false) : groupN s = 0 := by unfold groupN; rw [(sch_zero h).1]
theorem span_last {S n j : Nat} (hS : 0 < S) (h1 : j * S < n) (h2 : n ≤ j * S + S) : (n - 1) / S = j := by
  have e : n - 1 = (n - 1 - j * S) + j * S := by omega
  rw [e, Nat.add_mul_div_right _ _ hS, Nat.div_eq_of_lt (by omega), Nat.zero_add]
end Go.Proofs.Ytoaifodmjkhiiaa
/- TvA: Rows of texts that a call has made. -/
namespace Go.Proofs.Ytoaifodmjkhiiaa
set_option maxRecDepth 100000
open Go.RowKit

/-- Texts as the cells of a row. -/
def tv (l : List ByteArray) : List Value := l.map Value.string
theorem tv_snoc (l : List ByteArray) (x : ByteArray) : tv l ++ [.string x] = tv (l ++ [x]) := by simp [tv]
theorem tv_len (l : List ByteArray) : (tv l).length = l.length := by simp [tv]
theorem Try.info9 : (Try.prog.info? 9).map (fun i => (i.zero, i.size, i.bytes)) = some (some (.string ⟨#[]⟩), 1, 16) := by kernel_rfl

/-- A row of texts that a call has made: nothing of it is older than B. -/
def RowAt (w : World) (B : Nat) (a : Option Addr) (xs : List ByteArray) (cap : Nat) : Prop := xs.length ≤ cap ∧ (xs = [] ∨ ∃ g, a = some ⟨g, 0, none⟩ ∧ B ≤ g ∧ WRow w g xs)
theorem own_rowAt {w : World} {B : Nat} {v : Value} {xs : List ByteArray} (h : w.ownsRow B 9 1 v xs.length (tv xs)) : ∃ a cap, v = .slice a xs.length cap ∧ RowAt w B a xs cap := by
  have hc : ∀ g, v.ownBlock = some g → ∀ j u, (tv xs)[j]? = some u → w.cell? ((⟨g, 0, none⟩ : Addr).add j) = some u := fun g hg => h.cells hg
  have hlt := h.lt
  obtain ⟨_, ⟨rfl, h0⟩ | ⟨g, cap, cur, rfl, hB, hcur, hn, _, hsz, _⟩⟩ := h
  · have : xs = [] := List.eq_nil_of_length_eq_zero h0
    subst this
    exact ⟨none, 0, rfl, by simp, .inl rfl⟩
  · refine ⟨_, cap, rfl, hn, .inr ⟨g, rfl, hB, (hlt g rfl).2, fun j hj => ⟨?_, ?_⟩⟩⟩
    · have := hc g rfl j _ (show (tv xs)[j]? = some _ by simp [tv, hj]; rfl)
      have e : (⟨g, 0, none⟩ : Addr).add j = ⟨g, j, none⟩ := by
        cases j <;> simp [Addr.add]
      rw [e] at this
      simpa [List.getD, hj] using this
    · unfold World.frozen?
      rw [hcur]; simp
end Go.Proofs.Ytoaifodmjkhiiaa
