/- Texts of ours, laid one behind the other: EdD, EdQ, AkK, EvI. -/
import Derived.Test.YtendbipfmgnjkaaPe7
import Derived.Deep.RegionHeld3
/- EdD: The model's EditText. -/
namespace Go.Proofs.Ytendbipfmgnjkaa
set_option maxRecDepth 100000
open Go.RowKit
attribute [local go_sem ↓] Go.wp_at_zero Go.wp_at_succ

/-- A number in bytes. -/
def vb (n : Nat) : ByteArray := ⟨(W.vt n).toArray⟩
/-- The text of a record. -/
def editT (e : EM) : ByteArray := ⟨#[UInt8.ofNat e.kind.toNat, UInt8.ofNat e.who.toNat]⟩ ++ vb e.path.size ++ e.path ++ vb e.dest.size ++ e.dest ++ vb e.num.toNat
/-- What is known of a right record's numbers. -/
theorem edit_nums {e : EM} (h : editOk e = true) : 1 ≤ e.kind ∧ e.kind ≤ 10 ∧ 0 ≤ e.who ∧ e.who ≤ 9 ∧ 0 ≤ e.num ∧ e.num ≤ 1000 := by
  unfold editOk at h
  rw [Bool.and_eq_true, inI_iff] at h
  obtain ⟨⟨h1, h2⟩, h3⟩ := h
  refine ⟨h1, h2, ?_⟩
  by_cases h10 : e.kind = 10
  · rw [if_pos h10] at h3
    simp only [Bool.and_eq_true, beq_iff_eq] at h3
    omega
  · rw [if_neg h10, Bool.and_eq_true] at h3
    have h4 := h3.2
    unfold numsOk at h4
    split at h4
    · rw [Bool.and_eq_true, inI_iff, beq_iff_eq] at h4; omega
    · split at h4
      · rw [Bool.and_eq_true, inI_iff, beq_iff_eq] at h4; omega
      · split at h4
        · rw [Bool.and_eq_true, inI_iff, beq_iff_eq] at h4; omega
        · split at h4
          · rw [Bool.and_eq_true, inI_iff, beq_iff_eq] at h4; omega
          · rw [Bool.and_eq_true, beq_iff_eq, beq_iff_eq] at h4; omega
theorem cell_ltE {w : World} {p : Addr} {v : Value} (h : w.cell? p = some v) : p.block < w.heap.size := by
  by_cases c : p.block < w.heap.size
  · exact c
  · exfalso
    unfold World.cell? at h
    rw [Array.getElem?_eq_none (by omega)] at h
    simp at h
/-- A record's cells, behind a world. -/
def EC (w0 : World) (b : Nat) (e : EM) (w : World) : Prop := w.cell? ⟨b, 0, none⟩ = some (.int .i64 e.kind) ∧ w.cell? ⟨b, 1, none⟩ = some (.string e.path) ∧ w.cell? ⟨b, 2, none⟩ = some (.string e.dest) ∧ w.cell? ⟨b, 3, none⟩ = some (.int .i64 e.num) ∧ w.cell? ⟨b, 4, none⟩ = some (.int .i64 e.who) ∧ Shut (Below w0.heap.size w0 w)
theorem EC.below {w0 : World} {b : Nat} {e : EM} {w w' : World} (h : EC w0 b e w) (hb : Below w.heap.size w w') : EC w0 b e w' :=
  ⟨(hb.cell (p := ⟨b, 0, none⟩) (cell_ltE h.1)).trans h.1, (hb.cell (p := ⟨b, 1, none⟩) (cell_ltE h.2.1)).trans h.2.1, (hb.cell (p := ⟨b, 2, none⟩) (cell_ltE h.2.2.1)).trans h.2.2.1, (hb.cell (p := ⟨b, 3, none⟩) (cell_ltE h.2.2.2.1)).trans h.2.2.2.1, (hb.cell (p := ⟨b, 4, none⟩) (cell_ltE h.2.2.2.2.1)).trans h.2.2.2.2.1, ⟨h.2.2.2.2.2.out.trans (hb.mono h.2.2.2.2.2.out.size)⟩⟩
theorem EC.alloc {w0 : World} {b : Nat} {e : EM} {w : World} (h : EC w0 b e w) (o : Obj) : EC w0 b e (w.alloc o) := h.below ((Below.refl _ _).alloc (Nat.le_refl _) o)
theorem EC.drew {w0 : World} {b : Nat} {e : EM} {w : World} (h : EC w0 b e w) : EC w0 b e w.drew := h.below (Below.drew (Below.refl _ _))
theorem two_cells (w : World) (b : Nat) (c1 c2 : UInt8) (h0 : w.cell? ⟨b, 0, none⟩ = some (.int .u8 (c1.toNat : Int))) (h1 : w.cell? ⟨b, 1, none⟩ = some (.int .u8 (c2.toNat : Int))) : (convert 119 9 (.slice (some ⟨b, 0, none⟩) 2 2)).run Try.prog w = .ok (.string ⟨#[c1, c2]⟩) w := by
  refine run_convert_bytes_back _ 119 9 5 ⟨b, 0, none⟩ 2 [c1, c2] Try.underlying119 Try.underlying5 Try.underlying9 (fun j hj => ?_)
  have e : (⟨b, 0, none⟩ : Addr).add j = ⟨b, j, none⟩ := by cases j <;> simp [Addr.add]
  rw [e]
  match j, hj with
  | 0, _ => exact h0
  | 1, _ => exact h1
theorem two_later (x y : World) (c1 c2 : UInt8) (hy : Later (x.alloc (.cells #[.int .u8 (c1.toNat : Int), .int .u8 (c2.toNat : Int)] 5)) y) : (convert 119 9 (.slice (some ⟨x.heap.size, 0, none⟩) 2 2)).run Try.prog y = .ok (.string ⟨#[c1, c2]⟩) y :=
  two_cells _ _ c1 c2 ((Below.cell hy (p := ⟨x.heap.size, 0, none⟩) (by simp)).trans (by rw [World.cell?_alloc_mark]; rfl)) ((Below.cell hy (p := ⟨x.heap.size, 1, none⟩) (by simp)).trans (by rw [World.cell?_alloc_mark]; rfl))
theorem u8_byte (x : Int) (h0 : 0 ≤ x) (h1 : x < 256) : IntKind.u8.wrap x = ((UInt8.ofNat x.toNat).toNat : Int) := by
  rw [IntKind.wrap_u8]
  simp
  omega
end Go.Proofs.Ytendbipfmgnjkaa
/- EdQ: The program's own EditOk. -/
namespace Go.Proofs.Ytendbipfmgnjkaa
set_option maxRecDepth 100000
open Go.RowKit BigFrame
attribute [local go_sem ↓] Go.wp_at_zero Go.wp_at_succ

theorem ec_new (w : World) (e : EM) (T : TypeId) : EC w w.heap.size e (w.alloc (.cells #[.int .i64 e.kind, .string e.path, .string e.dest, .int .i64 e.num, .int .i64 e.who] T)) := by
  have h := wcells_new w #[.int .i64 e.kind, .string e.path, .string e.dest, .int .i64 e.num, .int .i64 e.who] T
  exact ⟨(h.2 0 _ rfl).1, (h.2 1 _ rfl).1, (h.2 2 _ rfl).1, (h.2 3 _ rfl).1, (h.2 4 _ rfl).1, ⟨(Below.refl _ _).alloc (Nat.le_refl _) _⟩⟩
set_option maxRecDepth 100000 in
set_option maxHeartbeats 1000000 in
theorem implEditOk (e : EM) (w : World) (hf : EFit e) : Calls Try.prog 76 #[ev e] w fun r w' => r = .returned (.bool (editOk e)) ∧ Below w.heap.size w w' := by
  have H1 := Shut.mk (fun W => implPathQ e W hf)
  have H2 := Shut.mk (fun W => implDestQ e W hf)
  have H3 := Shut.mk (fun W => implNumQ e W)
  have H4 := Shut.mk (fun W => implWhoQ e W)
  have HR := Shut.mk (edit_is e)
  have HN := Shut.mk (ec_new w e 91)
  generalize editOk e = R at *
  generalize pathQ e = q1 at *
  generalize destQ e = q2 at *
  generalize numQ e = q3 at *
  generalize whoQ e = q4 at *
  unfold inI at HR
  obtain ⟨kind, path, dest, num, who⟩ := e
  dsimp only at *
  clear hf
  go_enter Try.func76, Try.ntmps76
  go_wp2_with (first
    | (go_at_call 89; refine (H1.out _).mono ?_; rintro r w1 ⟨rfl, hb1⟩; obtain ⟨c0, c1, c2, c3, c4, hB⟩ := HN.out.below hb1; clear hb1; dsimp only at c0 c1 c2 c3 c4)
    | (go_at_call 90; refine (H2.out _).mono ?_; rintro r w1 ⟨rfl, hb1⟩; obtain ⟨c0, c1, c2, c3, c4, hB⟩ := EC.below (e := ⟨kind, path, dest, num, who⟩) ⟨c0, c1, c2, c3, c4, hB⟩ hb1; clear hb1; dsimp only at c0 c1 c2 c3 c4)
    | (go_at_call 91; refine (H3.out _).mono ?_; rintro r w1 ⟨rfl, hb1⟩; obtain ⟨c0, c1, c2, c3, c4, hB⟩ := EC.below (e := ⟨kind, path, dest, num, who⟩) ⟨c0, c1, c2, c3, c4, hB⟩ hb1; clear hb1; dsimp only at c0 c1 c2 c3 c4)
    | (go_at_call 92; refine (H4.out _).mono ?_; rintro r w1 ⟨rfl, hb1⟩; obtain ⟨c0, c1, c2, c3, c4, hB⟩ := EC.below (e := ⟨kind, path, dest, num, who⟩) ⟨c0, c1, c2, c3, c4, hB⟩ hb1; clear hb1; dsimp only at c0 c1 c2 c3 c4))
  all_goals
    go_ret
    refine ⟨by rw [HR.out]; first | (simp [*]; done) | (simp [*]; omega), ?_⟩
    first
      | exact hB.out
      | exact (Below.refl _ _).alloc (Nat.le_refl _) _
end Go.Proofs.Ytendbipfmgnjkaa
/- AkK: The program's own AskOk (written by gen/mkakk.py). -/
namespace Go.Proofs.Ytendbipfmgnjkaa
set_option maxRecDepth 100000
open Go.RowKit BigFrame
attribute [local go_sem ↓] Go.wp_at_zero Go.wp_at_succ
def textQ (q : AkM) : Bool := if q.kind = 3 then inI (q.text.size : Int) 1 60 else (q.text.toList == [])
def spareQ (q : AkM) : Bool := ((q.num == 0) || (q.kind == 8) || (q.kind == 9)) && ((q.dest.toList == []) || (q.kind == 5))
def placeQ (q : AkM) : Bool := if q.kind = 7 then named q.path else editOk (edOf q)
theorem ask_is (q : AkM) : askOk q = (inI q.kind 1 10 && inI q.who 1 9 && textQ q && spareQ q && placeQ q) := by
  unfold askOk textQ spareQ placeQ
  have hne : (q.dest.toList != []) = !(q.dest.toList == []) := rfl
  rw [hne]
  generalize (q.dest.toList == []) = a1
  generalize (if q.kind = 3 then inI (q.text.size : Int) 1 60 else (q.text.toList == [])) = a2
  generalize (if q.kind = 7 then named q.path else editOk (edOf q)) = a3
  generalize inI q.kind 1 10 = a4
  generalize inI q.who 1 9 = a5
  have e5 : (q.kind != 5) = !(q.kind == 5) := rfl
  have e8 : (q.kind != 8) = !(q.kind == 8) := rfl
  have e9 : (q.kind != 9) = !(q.kind == 9) := rfl
  have en : (q.num != 0) = !(q.num == 0) := rfl
  rw [e5, e8, e9, en]
  generalize (q.kind == 5) = b5
  generalize (q.kind == 8) = b8
  generalize (q.kind == 9) = b9
  generalize (q.num == 0) = bn
  revert a1 a2 a3 a4 a5 b5 b8 b9 bn
  decide
theorem implTextOk (q : AkM) (w : World) (ht : q.text.size ≤ 1048576) : Calls Try.prog 54 #[akv q] w fun e w' => e = .returned (.bool (textQ q)) ∧ Below w.heap.size w w' := by
  have HR : Shut (textQ q = if q.kind = 3 then (decide (1 ≤ (q.text.size : Int)) && decide ((q.text.size : Int) ≤ 60)) else (q.text.toList == [])) := ⟨rfl⟩
  generalize textQ q = R at *
  obtain ⟨kind, who, path, dest, text, num⟩ := q
  dsimp only at *
  go_enter Try.func54, Try.ntmps54
  go_wp2_with fail
  all_goals
    go_ret
    refine ⟨by rw [HR.out]; (try simp only [beq_iff_eq, beq_eq_false_iff_ne, ne_eq] at *); first | (simp [*]; done) | (simp [*]; omega), ?_⟩
    exact (Below.refl _ _).alloc (Nat.le_refl _) _
theorem implSpareOk (q : AkM) (w : World) : Calls Try.prog 55 #[akv q] w fun e w' => e = .returned (.bool (spareQ q)) ∧ Below w.heap.size w w' := by
  have HR : Shut (spareQ q = (((q.num == 0) || (q.kind == 8) || (q.kind == 9)) && ((q.dest.toList == []) || (q.kind == 5)))) := ⟨rfl⟩
  generalize spareQ q = R at *
  obtain ⟨kind, who, path, dest, text, num⟩ := q
  dsimp only at *
  go_enter Try.func55, Try.ntmps55
  go_wp2_with fail
  all_goals
    go_ret
    refine ⟨by rw [HR.out]; first | (simp [*]; done) | (simp [*]; omega), ?_⟩
    exact (Below.refl _ _).alloc (Nat.le_refl _) _
theorem implPlaceOk (q : AkM) (w : World) (hp : q.path.size ≤ 1048576) (hd : q.dest.size ≤ 1048576) : Calls Try.prog 56 #[akv q] w fun e w' => e = .returned (.bool (placeQ q)) ∧ Below w.heap.size w w' := by
  have HN := Shut.mk (fun W => implHasName q.path W hp)
  have HE := Shut.mk (fun W => implEditOf q W hp hd)
  have HO := Shut.mk (fun W => implEditOk (edOf q) W (edOf_fit hp hd))
  have HR : Shut (placeQ q = if q.kind = 7 then named q.path else editOk (edOf q)) := ⟨rfl⟩
  generalize placeQ q = R at *
  generalize named q.path = n9 at HN HR
  generalize editOk (edOf q) = e9 at HO HR
  generalize edOf q = E at HE HO
  obtain ⟨kind, who, path, dest, text, num⟩ := q
  obtain ⟨ek, ep, ed, en, ew⟩ := E
  clear hp hd
  have H := Shut.mk ((SL.start w).new #[.int .i64 kind, .int .i64 who, .string path, .string dest, .string text, .int .i64 num] 29)
  obtain ⟨qb, hqb⟩ : ∃ b, b = w.heap.size := ⟨_, rfl⟩
  dsimp only at *
  go_enter Try.func56, Try.ntmps56
  go_upto_region 1 with fail
  rw [← hqb] at H ⊢
  refine wp_shade (fun W => SL w W [bxS qb [.int .i64 kind, .int .i64 who, .string path, .string dest, .string text, .int .i64 num]]) H.out ?_
  intro W0 hS0
  replace H := Shut.mk hS0
  clear hS0 hqb
  have x0 := (H.out.bx 0 rfl 0 _ rfl).1
  have x1 := (H.out.bx 0 rfl 1 _ rfl).1
  have x2 := (H.out.bx 0 rfl 2 _ rfl).1
  have x3 := (H.out.bx 0 rfl 3 _ rfl).1
  have x4 := (H.out.bx 0 rfl 4 _ rfl).1
  have x5 := (H.out.bx 0 rfl 5 _ rfl).1
  go_wp2_with (first
    | (go_at_call 75; refine (HN.out _).mono ?_; rintro e w1 ⟨rfl, hb⟩; replace H := Shut.mk (H.out.below hb); clear hb x0 x1 x2 x3 x4 x5)
    | (go_at_call 77; refine (HE.out _).mono ?_; rintro e w1 ⟨rfl, hb⟩; replace H := Shut.mk (H.out.below hb); clear hb x0 x1 x2 x3 x4 x5)
    | (go_at_call 76; refine (HO.out _).mono ?_; rintro e w1 ⟨rfl, hb⟩; replace H := Shut.mk (H.out.below hb); clear hb))
  all_goals
    go_ret
    exact ⟨by rw [HR.out]; (try simp only [beq_iff_eq, beq_eq_false_iff_ne, ne_eq] at *); simp [*], H.out.bel⟩
set_option maxRecDepth 100000 in
set_option maxHeartbeats 4000000 in
theorem implAskOk (q : AkM) (w : World) (hp : q.path.size ≤ 1048576) (hd : q.dest.size ≤ 1048576) (ht : q.text.size ≤ 1048576) : Calls Try.prog 28 #[akv q] w fun e w' => e = .returned (.bool (askOk q)) ∧ Below w.heap.size w w' := by
  have HK := Shut.mk (fun W => implKindOk q W)
  have HT := Shut.mk (fun W => implTextOk q W ht)
  have HS := Shut.mk (fun W => implSpareOk q W)
  have HP := Shut.mk (fun W => implPlaceOk q W hp hd)
  have HR := Shut.mk (ask_is q)
  generalize askOk q = R at *
  generalize inI q.kind 1 10 = kk at HK HR
  generalize textQ q = kt at HT HR
  generalize spareQ q = ks at HS HR
  generalize placeQ q = kp at HP HR
  unfold inI at HR
  obtain ⟨kind, who, path, dest, text, num⟩ := q
  clear hp hd ht
  have H := Shut.mk ((SL.start w).new #[.int .i64 kind, .int .i64 who, .string path, .string dest, .string text, .int .i64 num] 29)
  obtain ⟨qb, hqb⟩ : ∃ b, b = w.heap.size := ⟨_, rfl⟩
  dsimp only at *
  go_enter Try.func28, Try.ntmps28
  go_upto_region 1 with fail
  rw [← hqb] at H ⊢
  refine wp_shade (fun W => SL w W [bxS qb [.int .i64 kind, .int .i64 who, .string path, .string dest, .string text, .int .i64 num]]) H.out ?_
  intro W0 hS0
  replace H := Shut.mk hS0
  clear hS0 hqb
  have x0 := (H.out.bx 0 rfl 0 _ rfl).1
  have x1 := (H.out.bx 0 rfl 1 _ rfl).1
  have x2 := (H.out.bx 0 rfl 2 _ rfl).1
  have x3 := (H.out.bx 0 rfl 3 _ rfl).1
  have x4 := (H.out.bx 0 rfl 4 _ rfl).1
  have x5 := (H.out.bx 0 rfl 5 _ rfl).1
  go_wp2_with (first
    | (go_at_call 53; refine (HK.out _).mono ?_; rintro e w1 ⟨rfl, hb⟩; replace H := Shut.mk (H.out.below hb); clear hb x0 x1 x2 x3 x4 x5; have x0 := (H.out.bx 0 rfl 0 _ rfl).1; have x1 := (H.out.bx 0 rfl 1 _ rfl).1; have x2 := (H.out.bx 0 rfl 2 _ rfl).1; have x3 := (H.out.bx 0 rfl 3 _ rfl).1; have x4 := (H.out.bx 0 rfl 4 _ rfl).1; have x5 := (H.out.bx 0 rfl 5 _ rfl).1)
    | (go_at_call 54; refine (HT.out _).mono ?_; rintro e w1 ⟨rfl, hb⟩; replace H := Shut.mk (H.out.below hb); clear hb x0 x1 x2 x3 x4 x5; have x0 := (H.out.bx 0 rfl 0 _ rfl).1; have x1 := (H.out.bx 0 rfl 1 _ rfl).1; have x2 := (H.out.bx 0 rfl 2 _ rfl).1; have x3 := (H.out.bx 0 rfl 3 _ rfl).1; have x4 := (H.out.bx 0 rfl 4 _ rfl).1; have x5 := (H.out.bx 0 rfl 5 _ rfl).1)
    | (go_at_call 55; refine (HS.out _).mono ?_; rintro e w1 ⟨rfl, hb⟩; replace H := Shut.mk (H.out.below hb); clear hb x0 x1 x2 x3 x4 x5; have x0 := (H.out.bx 0 rfl 0 _ rfl).1; have x1 := (H.out.bx 0 rfl 1 _ rfl).1; have x2 := (H.out.bx 0 rfl 2 _ rfl).1; have x3 := (H.out.bx 0 rfl 3 _ rfl).1; have x4 := (H.out.bx 0 rfl 4 _ rfl).1; have x5 := (H.out.bx 0 rfl 5 _ rfl).1)
    | (go_at_call 56; refine (HP.out _).mono ?_; rintro e w1 ⟨rfl, hb⟩; replace H := Shut.mk (H.out.below hb); clear hb x0 x1 x2 x3 x4 x5; have x0 := (H.out.bx 0 rfl 0 _ rfl).1; have x1 := (H.out.bx 0 rfl 1 _ rfl).1; have x2 := (H.out.bx 0 rfl 2 _ rfl).1; have x3 := (H.out.bx 0 rfl 3 _ rfl).1; have x4 := (H.out.bx 0 rfl 4 _ rfl).1; have x5 := (H.out.bx 0 rfl 5 _ rfl).1))
  all_goals
    go_ret
    exact ⟨by rw [HR.out]; first | (simp [*]; done) | (simp [*]; omega), H.out.bel⟩
end Go.Proofs.Ytendbipfmgnjkaa
/- EvI: The program's own EventOk. -/
namespace Go.Proofs.Ytendbipfmgnjkaa
set_option maxRecDepth 100000
open Go.RowKit BigFrame
attribute [local go_sem ↓] Go.wp_at_zero Go.wp_at_succ

set_option maxRecDepth 100000 in
set_option maxHeartbeats 4000000 in
theorem implEventOk (e : EvM) (la : Option Addr) (lc : Nat) (w : World) (hp : e.ask.path.size ≤ 1048576) (hd : e.ask.dest.size ≤ 1048576) (ht : e.ask.text.size ≤ 1048576) (_hl : e.left.length ≤ 1048576) (_h : CRow w la (ics e.left)) :
    Calls Try.prog 9 #[evC e la lc] w fun r w' => r = .returned (.bool (eventOk e)) ∧ Below w.heap.size w w' := by
  have HOK := Shut.mk (fun W => implAskOk e.ask W hp hd ht)
  have HR : Shut (eventOk e = (decide (1 ≤ e.kind) && decide (e.kind ≤ 9) && (decide (e.kind ≠ 1) || askOk e.ask) && decide (1 ≤ e.host) && decide (e.host ≤ 7) && decide (0 ≤ e.at9) && decide ((e.left.length : Int) ≤ 30))) := ⟨by
    unfold eventOk inI
    generalize askOk e.ask = z
    rw [Bool.eq_iff_iff]
    simp only [Bool.and_eq_true, Bool.or_eq_true, decide_eq_true_eq, bne_iff_ne, ne_eq, Bool.not_eq_true', decide_eq_false_iff_not]
    constructor
    · rintro ⟨⟨⟨⟨⟨a1, a2⟩, a3, a4⟩, a5⟩, a6⟩, a7⟩
      exact ⟨⟨⟨⟨⟨⟨a1, a2⟩, a7⟩, a3⟩, a4⟩, by omega⟩, by omega⟩
    · rintro ⟨⟨⟨⟨⟨⟨a1, a2⟩, a7⟩, a3⟩, a4⟩, a5⟩, a6⟩
      exact ⟨⟨⟨⟨⟨a1, a2⟩, a3, a4⟩, by omega⟩, by omega⟩, a7⟩⟩
  generalize eventOk e = R at *
  generalize askOk e.ask = ok9 at HOK HR
  clear _h _hl hp hd ht
  obtain ⟨kd, ⟨k, who, p, d, t, num⟩, ho, at9, cut, left⟩ := e
  dsimp only [evC] at *
  generalize left.length = n at *
  have H := Shut.mk ((SL.start w).new #[.int .i64 kd, .int .i64 k, .int .i64 who, .string p, .string d, .string t, .int .i64 num, .int .i64 ho, .int .i64 at9, .bool cut, .slice la n lc] 31)
  obtain ⟨qb, hqb⟩ : ∃ b, b = w.heap.size := ⟨_, rfl⟩
  go_enter Try.func9, Try.ntmps9
  go_upto_region 1 with fail
  rw [← hqb] at H ⊢
  refine wp_shade (fun W => SL w W [bxS qb [.int .i64 kd, .int .i64 k, .int .i64 who, .string p, .string d, .string t, .int .i64 num, .int .i64 ho, .int .i64 at9, .bool cut, .slice la n lc]]) H.out ?_
  intro W0 hS0
  replace H := Shut.mk hS0
  clear hS0 hqb
  have x0 := (H.out.bx 0 rfl 0 _ rfl).1
  have x1 := (H.out.bx 0 rfl 1 _ rfl).1
  have x2 := (H.out.bx 0 rfl 2 _ rfl).1
  have x3 := (H.out.bx 0 rfl 3 _ rfl).1
  have x4 := (H.out.bx 0 rfl 4 _ rfl).1
  have x5 := (H.out.bx 0 rfl 5 _ rfl).1
  have x6 := (H.out.bx 0 rfl 6 _ rfl).1
  have x7 := (H.out.bx 0 rfl 7 _ rfl).1
  have x8 := (H.out.bx 0 rfl 8 _ rfl).1
  have x10 := (H.out.bx 0 rfl 10 _ rfl).1
  by_cases h5 : kd = 1
  · subst h5
    go_wp2_with (go_at_call 28; refine (HOK.out _).mono ?_; rintro r w1 ⟨rfl, hb⟩; replace H := Shut.mk (H.out.below hb); have y7 := (H.out.bx 0 rfl 7 _ rfl).1; have y8 := (H.out.bx 0 rfl 8 _ rfl).1; have y10 := (H.out.bx 0 rfl 10 _ rfl).1; clear hb)
    all_goals
      go_ret
      refine ⟨by rw [HR.out]; first | (simp [*]; done) | (simp [*]; omega), H.out.bel⟩
  · have h5' : (kd != 1) = true := by simpa using h5
    go_wp2_with fail
    all_goals
      go_ret
      refine ⟨by rw [HR.out]; first | (simp [*]; done) | (simp [*]; omega), H.out.bel⟩
end Go.Proofs.Ytendbipfmgnjkaa
