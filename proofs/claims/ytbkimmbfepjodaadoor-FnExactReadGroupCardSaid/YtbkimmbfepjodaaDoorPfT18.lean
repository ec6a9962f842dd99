/- Texts of ours, laid one behind the other: TLawRg, TRgB. -/
import Derived.Test.YtbkimmbfepjodaaDoorPfT17
set_option linter.unusedVariables false
set_option linter.unusedSimpArgs false
/- The exact law of ReadGroup, over what is told of the program's (written by gen/mklawuo.py). -/
namespace Go.Proofs.YtbkimmbfepjodaaDoorT
set_option maxRecDepth 100000
open Go.RowKit BigFrame
attribute [local go_sem ↓] Go.wp_at_zero Go.wp_at_succ
set_option maxRecDepth 100000 in
set_option maxHeartbeats 8000000 in
theorem lawReadGroup (rs : List HoR) (a : Option Addr) (cap : Nat) (s g : Int) (y : Int) (R : ByteArray) (ok : Bool) (w : World) (hr : HsRow w a rs) (hf : HsFits (hms rs))
    (hsp : rs.length ≤ 1048576 → hsSum (hms rs) ≤ 1048576 → ∀ (W : World) (b : Option Addr) (rs' : List HoR) (c : Nat), HsRow W b rs' → hms rs' = hms rs → Calls Tw.prog 5 #[.slice b rs'.length c, .int .i64 s, .int .i64 g, .int .i64 y] W fun e w' => e = .returned (.tuple #[.string R, .bool ok]) ∧ Below W.heap.size W w')
    (him : rs.length ≤ 1048576 → hsSum (hms rs) ≤ 1048576 → ∀ (W : World) (b : Option Addr) (rs' : List HoR) (c : Nat), HsRow W b rs' → hms rs' = hms rs → Below w.heap.size w W → Calls Tw.prog 7 #[.slice b rs'.length c, .int .i64 s, .int .i64 g, .int .i64 y] W fun e w' => e = .returned (.tuple #[.string R, .bool ok]) ∧ Below W.heap.size W w') :
    Calls Tw.prog 3 #[.slice a rs.length cap, .int .i64 s, .int .i64 g, .int .i64 y] w fun e w' => e = .returned (.bool true) ∧ Below w.heap.size w w' := by
  have HSZ := Shut.mk (szHostS_any a rs cap 1048576 w hr hf (by omega) (by omega))
  have HR := Shut.mk hr
  have hsl : rs.length = (hms rs).length := (hms_len rs).symm
  obtain ⟨hs, hhs⟩ : ∃ q, q = hms rs := ⟨_, rfl⟩
  obtain ⟨n, hn⟩ : ∃ n, n = rs.length := ⟨_, rfl⟩
  have HTO : Shut (n ≤ 1048576 → hsSum hs ≤ 1048576 → ∀ W, Below w.heap.size w W → Calls Tw.prog 6 #[.slice a n cap] W fun e w' => ∃ va ca rs', e = .returned (.slice va n ca) ∧ n = rs'.length ∧ hms rs' = hs ∧ HsW w' va rs' W.heap.size w'.heap.size ∧ Below W.heap.size W w') := ⟨fun h1 h2 W hb => by
    rw [hhs] at h2 ⊢
    exact toHostS_num a rs cap n hn W (HR.out.stays hb) h1 h2⟩
  have HSP : Shut (n ≤ 1048576 → hsSum hs ≤ 1048576 → ∀ (W : World) (b : Option Addr) (rs' : List HoR) (c : Nat), HsRow W b rs' → n = rs'.length → hms rs' = hs → Calls Tw.prog 5 #[.slice b n c, .int .i64 s, .int .i64 g, .int .i64 y] W fun e w' => e = .returned (.tuple #[.string R, .bool ok]) ∧ Below W.heap.size W w') := ⟨fun h1 h2 W b rs' c hr' hn' he => by
    rw [hn']
    exact hsp (by omega) (by rw [← hhs]; exact h2) W b rs' c hr' (by rw [he, hhs])⟩
  have HIM : Shut (n ≤ 1048576 → hsSum hs ≤ 1048576 → ∀ (W : World) (b : Option Addr) (rs' : List HoR) (c : Nat), HsRow W b rs' → n = rs'.length → hms rs' = hs → Below w.heap.size w W → Calls Tw.prog 7 #[.slice b n c, .int .i64 s, .int .i64 g, .int .i64 y] W fun e w' => e = .returned (.tuple #[.string R, .bool ok]) ∧ Below W.heap.size W w') := ⟨fun h1 h2 W b rs' c hr' hn' he hb => by
    rw [hn']
    exact him (by omega) (by rw [← hhs]; exact h2) W b rs' c hr' (by rw [he, hhs]) hb⟩
  have HEQ : Shut (n ≤ 1048576 → hsSum hs ≤ 1048576 → ∀ (W : World) (b c : Option Addr) (r1 r2 : List HoR) (cb cc : Nat), HsRow W b r1 → n = r1.length → hms r1 = hs → HsRow W c r2 → n = r2.length → hms r2 = hs → Calls Tw.prog 8 #[.slice b n cb, .slice c n cc] W fun e w' => e = .returned (.bool true) ∧ Below W.heap.size W w') := ⟨fun h1 h2 W b c r1 r2 cb cc q1 l1 e1 q2 l2 e2 => by
    have q := eqHostS_same b c r1 r2 cb cc W q1 q2 (e1.trans e2.symm) (by omega) (fun r hr' => by
      have := hsSum_mem (hs := hms r1) (h := r.h) (List.mem_map_of_mem hr')
      rw [e1] at this
      omega)
    rw [← l1, ← l2] at q
    exact q⟩
  have hoo : (ok != ok) = false := by cases ok <;> rfl
  rw [← hhs, ← hn] at HSZ
  rw [← hn]
  clear hr hf hsp him hsl hhs hn HR
  go_enter Tw.func3, Tw.ntmps3
  go_wp2_with fail
  refine HSZ.out.mono ?_
  rintro e w1 ⟨r, rfl, r0, r1, hb⟩
  have H := Shut.mk ((SL.start w).below hb)
  clear hb
  by_cases hq : r < 0
  · clear r1
    go_wp2_with fail
    go_ret
    exact ⟨rfl, H.out.bel⟩
  have hr1 := r1 (by omega)
  have hnl : n ≤ 1048576 := by omega
  replace HTO := Shut.mk (HTO.out (by omega) (by omega))
  replace HSP := Shut.mk (HSP.out (by omega) (by omega))
  replace HIM := Shut.mk (HIM.out (by omega) (by omega))
  replace HEQ := Shut.mk (HEQ.out (by omega) (by omega))
  clear r1 hr1 r0 HSZ
  go_wp2_with fail
  refine (HTO.out _ H.out.bel).mono ?_
  rintro e w2 ⟨gw2, cw2, rsw2, rfl, hlw2, hew2, hw, hb⟩
  replace H := Shut.mk (H.out.below hb)
  have HW := Shut.mk (And.intro hw.row (And.intro hlw2 hew2))
  clear hb hw hlw2 hew2
  go_wp2_with fail
  refine (HSP.out _ _ _ _ HW.out.1 HW.out.2.1 HW.out.2.2).mono ?_
  rintro e w3 ⟨rfl, hb⟩
  replace H := Shut.mk (H.out.below hb)
  clear hb HW
  go_wp2_with fail
  refine (HTO.out _ H.out.bel).mono ?_
  rintro e w5 ⟨g5, c5, rs5, rfl, hl5, he5, hw, hb⟩
  replace H := Shut.mk (H.out.add (s := hsS g5 rs5 _ w5.heap.size) hb hw (hsS.loc _ _ _ _) (Nat.le_refl _) (Nat.le_refl _))
  obtain ⟨l5, h5, H⟩ := hide_hs H
  have H5 := Shut.mk (And.intro hl5 he5)
  clear hb hw hl5 he5
  go_wp2_with fail
  refine (HIM.out _ _ _ _ (show HsW _ _ _ _ _ from H.out.at 0 rfl).row H5.out.1 H5.out.2 H.out.bel).mono ?_
  rintro e w7 ⟨rfl, hb⟩
  replace H := Shut.mk (H.out.below hb)
  clear hb
  go_wp2_with fail
  refine (HTO.out _ H.out.bel).mono ?_
  rintro e w9 ⟨gw9, cw9, rsw9, rfl, hlw9, hew9, hw, hb⟩
  replace H := Shut.mk (H.out.below hb)
  have HW := Shut.mk (And.intro hw.row (And.intro hlw9 hew9))
  clear hb hw hlw9 hew9
  go_wp2_with fail
  refine (HEQ.out _ _ _ _ _ _ _ (show HsW _ _ _ _ _ from H.out.at 0 rfl).row H5.out.1 H5.out.2 HW.out.1 HW.out.2.1 HW.out.2.2).mono ?_
  rintro e w10 ⟨rfl, hb⟩
  replace H := Shut.mk (H.out.below hb)
  clear hb HW
  go_wp2_with fail
  go_ret
  exact ⟨rfl, H.out.bel⟩
end Go.Proofs.YtbkimmbfepjodaaDoorT
/- The exact law of ReadGroup, over the program's own (the twin's). -/
namespace Go.Proofs.YtbkimmbfepjodaaDoorT
set_option maxRecDepth 100000
open Go.RowKit
theorem walkReadGroup (a : Option Addr) (rs : List HoR) (cap : Nat) (s g n : Int) (w : World) (htab : SumTab w) (hr : HsRow w a rs) (hf : HsFits (hms rs)) :
    Calls Tw.prog 3 #[.slice a rs.length cap, .int .i64 s, .int .i64 g, .int .i64 n] w fun e w' => e = .returned (.bool true) ∧ Below w.heap.size w w' :=
  lawReadGroup rs a cap s g n (readX (hms rs) s g n).1 (readX (hms rs) s g n).2 w hr hf
    (fun hl hz W b rs' c h e => by rw [← e]; exact specReadGroup b rs' c s g n W h (by rw [← hms_len rs', e, hms_len]; exact hl) (by rw [e]; exact hz))
    (fun hl hz W b rs' c h e hb => by rw [← e]; exact implReadGroup b rs' c s g n W (htab.stays hb) h (by rw [← hms_len rs', e, hms_len]; exact hl) (by rw [e]; exact hz))
end Go.Proofs.YtbkimmbfepjodaaDoorT
