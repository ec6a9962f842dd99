/- The walk of the exact law of PartsOf. -/
import Derived.Test.YtphhiomiiapcpaiDoorPartsI
namespace Go.Proofs.YtphhiomiiapcpaiDoor.fnExactPartsOf
open Go.RowKit

theorem RowAt.srow {w : World} {B : Nat} {a : Option Addr} {xs : List ByteArray} {cap : Nat} (h : RowAt w B a xs cap) : SRow w a xs := fun hp => by
  rcases h.2 with e | ⟨g, rfl, _, hw⟩
  · subst e; simp at hp
  · exact hw.srow hp
theorem RowAt.below {w w' : World} {B C : Nat} {a : Option Addr} {xs : List ByteArray} {cap : Nat} (h : RowAt w B a xs cap) (hb : Below C w w') (hC : w.heap.size ≤ C) : RowAt w' B a xs cap := by
  refine ⟨h.1, ?_⟩
  rcases h.2 with e | ⟨g, rfl, hB, hw⟩
  · exact .inl e
  · exact .inr ⟨g, rfl, hB, hw.below hb (Nat.lt_of_lt_of_le hw.1 hC)⟩
theorem eqS_self (xs : List ByteArray) : eqS xs xs = true := by simp [eqS]
theorem few {s : ByteArray} {xs : List ByteArray} {b : Bool} (h : PartsIs s xs b) : xs.length ≤ 10 := by
  rcases h with ⟨_, _, _, h, rfl⟩ | ⟨_, rfl, _⟩
  · simpa using h
  · simp
theorem below_two {B : Nat} {a b c : World} (h : Below B a b) (k : Below b.heap.size b c) (hB : B ≤ b.heap.size) : Below B a c := h.trans (k.mono hB)
theorem drewN_below (B : Nat) (w : World) (q : Nat) : Below B w (w.drewN q) := ⟨rfl, rfl, rfl, Nat.le_refl _, fun _ _ => rfl⟩
theorem grown_below {w w' : World} {g B : Nat} (h : w.grownBy w' (some g)) (hB : B ≤ g) (hs : B ≤ w.heap.size) : Below B w w' :=
  ⟨h.os, h.tape, h.output, h.size, fun k hk => h.block k (by omega) (by simp; omega)⟩
theorem srow_marks0 (w : World) (a : Option Addr) (k : Nat) : SRow w a (marks k 0) := fun h => by simp [marks] at h

theorem gSpace : Tryd.prog.globalNamed "strings.asciiSpace" = some 0 := by kernel_rfl

theorem mark0 (a : Option Addr) (ca : Nat) (w : World) :
    Calls Tryd.prog 10 #[.slice a 0 ca, .int .i64 1] w fun e w' => e = .returned (.int .i64 1) ∧ w' = w := markStringS_none a 1 ca w
theorem mark1 (g : Nat) (xs : List ByteArray) (ca : Nat) (w : World) (ha : WRow w g xs) (hn : xs.length ≤ 10) (hca : xs.length ≤ ca) :
    Calls Tryd.prog 10 #[.slice (some ⟨g, 0, none⟩) xs.length ca, .int .i64 1] w fun e w' => e = .returned (.int .i64 (1 + xs.length : Nat)) ∧ WRow w' g (marks 1 xs.length) ∧ w.grownBy w' (some g) :=
  markStringS_any g xs 1 ca w ha (by omega) (by omega) hca
theorem held1 (a : Option Addr) (n ca : Nat) (w : World) (ha : SRow w a (marks 1 n)) (hn : n ≤ 10) :
    Calls Tryd.prog 11 #[.slice a n ca, .int .i64 1] w fun e w' => e = .returned (.int .i64 (1 + n : Nat)) ∧ Below w.heap.size w w' :=
  heldStringS_any a 1 n ca w ha (by omega) (by omega)

set_option maxHeartbeats 1000000 in
theorem walk (a0 : ByteArray) (w : World) (htab : Lib.TabIs Tryd.prog w "strings.asciiSpace" .u8 Lib.asciiSpaceTab) :
    Calls Tryd.prog 4 #[.string a0] w fun e w' => e = .returned (.bool true) ∧ Below w.heap.size w w' := by
  have HT : Hid _ := htab
  clear htab
  by_cases hs : 1048576 < a0.size
  · go_enter Tryd.func4, Tryd.ntmps4
    go_wp2_with fail
    go_ret
    exact ⟨rfl, Below.refl _ _⟩
  · go_enter Tryd.func4, Tryd.ntmps4
    go_wp2_with fail
    refine (specPartsOf a0 _).mono ?_
    rintro e w1 ⟨p0, c0, xs, b, rfl, hp0, hr0, hb0⟩
    go_wp2_with fail
    refine (implPartsOf a0 _ (Joins.tab_stays gSpace HT.out hb0 (Nat.le_refl _))).mono ?_
    rintro e w2 ⟨p1, c1, ys, b', rfl, hp1, hr1, hb1⟩
    obtain ⟨ey, eb⟩ := hp0.one hp1
    have hfew := few hp0
    have HP : Hid (PartsIs a0 xs b) := hp0
    subst ey eb
    have hr0' := RowAt.below hr0 hb1 (Nat.le_refl _)
    have hB2 := below_two hb0 hb1 hb0.size
    clear hp0 hp1
    go_wp2_with fail
    refine (eqStringS_any p1 p0 xs xs c1 c0 _ (RowAt.srow hr1) (RowAt.srow hr0') (by omega) (by omega)).mono ?_
    rw [eqS_self]
    rintro e w3 ⟨rfl, q, rfl⟩
    go_wp2_with fail
    have hd3 := drewN_below w2.heap.size w2 q
    rcases hr1.2 with hx | ⟨g, rfl, hg1, hwr⟩
    · subst hx
      have hl0 : ([] : List ByteArray).length = 0 := rfl
      simp only [hl0]
      refine (mark0 p1 c1 _).mono ?_
      rintro e w4 ⟨rfl, rfl⟩
      go_wp2_with fail
      refine (held1 p1 0 c1 _ (srow_marks0 _ _ _) (by omega)).mono ?_
      rintro e w5 ⟨rfl, hb5⟩
      have hB5 := below_two (below_two hB2 hd3 hB2.size) hb5 (Nat.le_trans hB2.size hd3.size)
      go_wp2_with fail
      refine (implPartsOf a0 _ (Joins.tab_stays gSpace HT.out hB5 (Nat.le_refl _))).mono ?_
      rintro e w6 ⟨p2, c2, zs, b2, rfl, hp2, hr2, hb6⟩
      obtain ⟨ez, eb2⟩ := PartsIs.one HP.out hp2
      subst ez eb2
      clear hp2
      simp only [hl0]
      have hB6 := below_two hB5 hb6 hB5.size
      go_wp2_with fail
      refine (eqStringS_any p2 p0 [] [] c2 c0 _ (fun h => by simp at h) (fun h => by simp at h) (by simp) (by simp)).mono ?_
      rw [eqS_self]
      rintro e w7 ⟨rfl, q7, rfl⟩
      have hd7 := drewN_below w6.heap.size w6 q7
      have hB7 := below_two hB6 hd7 hB6.size
      go_wp2_with fail
      refine (held1 p1 0 c1 _ (srow_marks0 _ _ _) (by omega)).mono ?_
      rintro e w8 ⟨rfl, hb8⟩
      go_wp2_with fail
      go_ret
      exact ⟨rfl, below_two hB7 hb8 hB7.size⟩
    · refine (mark1 g xs c1 _ (hwr.below hd3 hwr.1) hfew hr1.1).mono ?_
      rintro e w4 ⟨rfl, hwm, hgr⟩
      have hb4 : Below w1.heap.size (w2.drewN q) w4 := grown_below hgr hg1 (Nat.le_trans hb1.size hd3.size)
      have hr0'' := RowAt.below (RowAt.below hr0 (hb1.trans (hd3.mono hb1.size)) (Nat.le_refl _)) (Below.refl (w2.drewN q).heap.size _) (Nat.le_refl _)
      have hs4 : SRow w4 (some ⟨g, 0, none⟩) (marks 1 xs.length) := hwm.srow
      have hB4 : Below w.heap.size w w4 := (hB2.trans (hd3.mono hB2.size)).trans (hb4.mono hb0.size)
      have hc4 : Below w1.heap.size w1 w4 := (hb1.trans (hd3.mono hb1.size)).trans hb4
      clear hr0' hr0'' hwr
      go_wp2_with fail
      refine (held1 _ xs.length c1 _ hs4 hfew).mono ?_
      rintro e w5 ⟨rfl, hb5⟩
      have hB5 := below_two hB4 hb5 hB4.size
      have hc5 := below_two hc4 hb5 hc4.size
      have hwm5 := hwm.below hb5 hwm.1
      go_wp2_with fail
      refine (implPartsOf a0 _ (Joins.tab_stays gSpace HT.out hB5 (Nat.le_refl _))).mono ?_
      rintro e w6 ⟨p2, c2, zs, b2, rfl, hp2, hr2, hb6⟩
      obtain ⟨ez, eb2⟩ := PartsIs.one HP.out hp2
      subst ez eb2
      clear hp2
      have hB6 := below_two hB5 hb6 hB5.size
      have hc6 := below_two hc5 hb6 hc5.size
      have hwm6 := hwm5.below hb6 hwm5.1
      have hr6 := RowAt.below hr0 hc6 (Nat.le_refl _)
      go_wp2_with fail
      refine (eqStringS_any p2 p0 xs xs c2 c0 _ (RowAt.srow hr2) (RowAt.srow hr6) (by omega) (by omega)).mono ?_
      rw [eqS_self]
      rintro e w7 ⟨rfl, q7, rfl⟩
      have hd7 := drewN_below w6.heap.size w6 q7
      have hB7 := below_two hB6 hd7 hB6.size
      have hwm7 := hwm6.below hd7 hwm6.1
      go_wp2_with fail
      refine (held1 _ xs.length c1 _ hwm7.srow hfew).mono ?_
      rintro e w8 ⟨rfl, hb8⟩
      go_wp2_with fail
      go_ret
      exact ⟨rfl, below_two hB7 hb8 hB7.size⟩
end Go.Proofs.YtphhiomiiapcpaiDoor.fnExactPartsOf
