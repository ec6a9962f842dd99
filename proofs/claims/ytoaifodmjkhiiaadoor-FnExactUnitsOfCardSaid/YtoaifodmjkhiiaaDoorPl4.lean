/- Texts of ours, laid one behind the other: LawUu, TreC, TreD, TreE, TreP, TreQ, SpH, OwS, ApRow, SpI, SpJ, UoS. -/
import Derived.Test.YtoaifodmjkhiiaaDoorPl3
import Derived.Deep.RegionHeld3
import Derived.Deep.DrawnRows
import Derived.Deep.CutRange
import Derived.BigQuiet
import Derived.Maps.AppendAt
import Derived.Deep.Upon
/- LawUu: The exact law of UnitsOf, over what is told of the program's (written by gen/mklawuo.py). -/
namespace Go.Proofs.YtoaifodmjkhiiaaDoor
set_option maxRecDepth 100000
open Go.RowKit BigFrame
attribute [local go_sem ↓] Go.wp_at_zero Go.wp_at_succ
abbrev saS (v : Value) (X : List ByteArray) (lo hi : Nat) : Str := ⟨fun W => SAns W v X lo hi, lo, hi⟩
theorem saS.loc (v : Value) (X : List ByteArray) (lo hi : Nat) : (saS v X lo hi).Loc := fun _ _ _ _ h t hd => SAns.turned h t hd
abbrev baS (v : Value) (X : List Bool) (lo hi : Nat) : Str := ⟨fun W => BAns W v X lo hi, lo, hi⟩
theorem baS.loc (v : Value) (X : List Bool) (lo hi : Nat) : (baS v X lo hi).Loc := fun _ _ _ _ h t hd => BAns.turned h t hd
set_option maxRecDepth 100000 in
set_option maxHeartbeats 8000000 in
theorem lawUnitsOf (rs : List HoR) (a : Option Addr) (cap : Nat) (s g : Int) (T : List ByteArray) (Bs : List Bool) (hTl : T.length ≤ 6) (hBl : Bs.length ≤ 6) (w : World) (hr : HsRow w a rs) (hf : HsFits (hms rs))
    (hsp : rs.length ≤ 1048576 → hsSum (hms rs) ≤ 1048576 → ∀ (W : World) (b : Option Addr) (rs' : List HoR) (c : Nat), HsRow W b rs' → hms rs' = hms rs → Calls Tryd.prog 7 #[.slice b rs'.length c, .int .i64 s, .int .i64 g] W fun e w' => UPost T Bs W e w')
    (him : rs.length ≤ 1048576 → hsSum (hms rs) ≤ 1048576 → ∀ (W : World) (b : Option Addr) (rs' : List HoR) (c : Nat), HsRow W b rs' → hms rs' = hms rs → Below w.heap.size w W → Calls Tryd.prog 9 #[.slice b rs'.length c, .int .i64 s, .int .i64 g] W fun e w' => UPost T Bs W e w') :
    Calls Tryd.prog 3 #[.slice a rs.length cap, .int .i64 s, .int .i64 g] w fun e w' => e = .returned (.bool true) ∧ Below w.heap.size w w' := by
  have HSZ := Shut.mk (szHostS_any a rs cap 1048576 w hr hf (by omega) (by omega))
  have HR := Shut.mk hr
  have hsl : rs.length = (hms rs).length := (hms_len rs).symm
  obtain ⟨hs, hhs⟩ : ∃ q, q = hms rs := ⟨_, rfl⟩
  obtain ⟨n, hn⟩ : ∃ n, n = rs.length := ⟨_, rfl⟩
  have HTO : Shut (n ≤ 1048576 → hsSum hs ≤ 1048576 → ∀ W, Below w.heap.size w W → Calls Tryd.prog 8 #[.slice a n cap] W fun e w' => ∃ va ca rs', e = .returned (.slice va n ca) ∧ n = rs'.length ∧ hms rs' = hs ∧ HsW w' va rs' W.heap.size w'.heap.size ∧ Below W.heap.size W w') := ⟨fun h1 h2 W hb => by
    rw [hhs] at h2 ⊢
    exact toHostS_num a rs cap n hn W (HR.out.stays hb) h1 h2⟩
  have HSP : Shut (n ≤ 1048576 → hsSum hs ≤ 1048576 → ∀ (W : World) (b : Option Addr) (rs' : List HoR) (c : Nat), HsRow W b rs' → n = rs'.length → hms rs' = hs → Calls Tryd.prog 7 #[.slice b n c, .int .i64 s, .int .i64 g] W fun e w' => UPost T Bs W e w') := ⟨fun h1 h2 W b rs' c hr' hn' he => by
    rw [hn']
    exact hsp (by omega) (by rw [← hhs]; exact h2) W b rs' c hr' (by rw [he, hhs])⟩
  have HIM : Shut (n ≤ 1048576 → hsSum hs ≤ 1048576 → ∀ (W : World) (b : Option Addr) (rs' : List HoR) (c : Nat), HsRow W b rs' → n = rs'.length → hms rs' = hs → Below w.heap.size w W → Calls Tryd.prog 9 #[.slice b n c, .int .i64 s, .int .i64 g] W fun e w' => UPost T Bs W e w') := ⟨fun h1 h2 W b rs' c hr' hn' he hb => by
    rw [hn']
    exact him (by omega) (by rw [← hhs]; exact h2) W b rs' c hr' (by rw [he, hhs]) hb⟩
  have HEQ : Shut (n ≤ 1048576 → hsSum hs ≤ 1048576 → ∀ (W : World) (b c : Option Addr) (r1 r2 : List HoR) (cb cc : Nat), HsRow W b r1 → n = r1.length → hms r1 = hs → HsRow W c r2 → n = r2.length → hms r2 = hs → Calls Tryd.prog 12 #[.slice b n cb, .slice c n cc] W fun e w' => e = .returned (.bool true) ∧ Below W.heap.size W w') := ⟨fun h1 h2 W b c r1 r2 cb cc q1 l1 e1 q2 l2 e2 => by
    have q := eqHostS_same b c r1 r2 cb cc W q1 q2 (e1.trans e2.symm) (by omega) (fun r hr' => by
      have := hsSum_mem (hs := hms r1) (h := r.h) (List.mem_map_of_mem hr')
      rw [e1] at this
      omega)
    rw [← l1, ← l2] at q
    exact q⟩
  have HMH : Shut (n ≤ 1048576 → hsSum hs ≤ 1048576 → ∃ K : Nat, 0 < K ∧ K ≤ 1000000000 ∧ ∀ (W : World) (b : Option Addr) (r1 : List HoR) (c lo hi : Nat), HsW W b r1 lo hi → n = r1.length → hms r1 = hs → Calls Tryd.prog 13 #[.slice b n c, .int .i64 1] W fun e w' => e = .returned (.int .i64 K) ∧ ∃ ys : List HoR, HsW w' b ys lo hi ∧ Turned W w' lo hi) := ⟨fun h1 h2 => ⟨endH 1 hs, by rw [endH_eq]; omega, endH_fits (by rw [hhs, ← hsl]; omega) h2, fun W b r1 c lo hi h l1 e1 => by
    have q := markHostS_own b r1 c lo hi W h (by rw [e1]; exact endH_fits (by rw [hhs, ← hsl]; omega) h2) (fun e => by subst e; exact markHostS_nil c b W)
    rw [← l1, e1] at q
    exact q⟩⟩
  have HES := Shut.mk (fun (W : World) (v u : Value) (lo hi lo' hi' : Nat) (h1 : SAns W v T lo hi) (h2 : SAns W u T lo' hi') => eqStringS_val h1 h2 (by omega))
  have HEB := Shut.mk (fun (W : World) (v u : Value) (lo hi lo' hi' : Nat) (h1 : BAns W v Bs lo hi) (h2 : BAns W u Bs lo' hi') => eqBoolS_val h1.see h2.see (by omega))
  have HMS := Shut.mk (fun (W : World) (v : Value) (lo hi : Nat) (h : SAns W v T lo hi) => markStringS_val 1 h (by omega) (by omega))
  have HMB := Shut.mk (fun (W : World) (v : Value) (lo hi : Nat) (h : BAns W v Bs lo hi) => markBoolS_wal (1 + T.length) h (by omega))
  have HHS := Shut.mk (fun (W : World) (v : Value) (lo hi : Nat) (h : SAns W v (marks 1 T.length) lo hi) => heldStringS_val h (by omega) (by omega))
  have HHB := Shut.mk (fun (W : World) (v : Value) (lo hi : Nat) (h : BAns W v (marksB (1 + T.length) Bs.length) lo hi) => heldBoolS_val h.see (by omega))
  obtain ⟨m1, hm1⟩ : ∃ m, m = 1 + T.length := ⟨_, rfl⟩
  obtain ⟨m2, hm2⟩ : ∃ m, m = m1 + Bs.length := ⟨_, rfl⟩
  rw [← hm1] at HMS HMB HHS HHB
  rw [← hm2] at HMB HHB
  have hdd : ((m2 : Int) != (m2 : Int)) = false := by simp
  have hm3 : ¬ ((m1 : Nat) : Int) < 0 := by omega
  have hm4 : ¬ ((m2 : Nat) : Int) < 0 := by omega
  rw [← hhs, ← hn] at HSZ
  rw [← hn]
  clear hr hf hsp him hsl hhs hn HR hm1 hm2 hTl hBl
  go_enter Tryd.func3, Tryd.ntmps3
  go_wp2_with fail
  refine HSZ.out.mono ?_
  rintro e w1 ⟨r, rfl, r0, r1, hb⟩
  have H := Shut.mk ((SL.start w).below hb)
  clear hb
  by_cases hq : r < 0
  · clear r1
    go_wp2_with fail
    go_ret
    exact ⟨rfl, H.out.bel⟩
  have hr1 := r1 (by omega)
  have hnl : n ≤ 1048576 := by omega
  replace HTO := Shut.mk (HTO.out (by omega) (by omega))
  replace HSP := Shut.mk (HSP.out (by omega) (by omega))
  replace HIM := Shut.mk (HIM.out (by omega) (by omega))
  replace HEQ := Shut.mk (HEQ.out (by omega) (by omega))
  obtain ⟨K, K0, K1, hmh⟩ := HMH.out (by omega) (by omega)
  replace HMH := Shut.mk hmh
  have K2 : ¬ ((K : Nat) : Int) < 0 := by omega
  clear hmh
  clear r1 hr1 r0 HSZ
  go_wp2_with fail
  refine (HTO.out _ H.out.bel).mono ?_
  rintro e w2 ⟨gw2, cw2, rsw2, rfl, hlw2, hew2, hw, hb⟩
  replace H := Shut.mk (H.out.below hb)
  have HW := Shut.mk (And.intro hw.row (And.intro hlw2 hew2))
  clear hb hw hlw2 hew2
  go_wp2_with fail
  refine (HSP.out _ _ _ _ HW.out.1 HW.out.2.1 HW.out.2.2).mono ?_
  rintro e w3 ⟨v3, u3, la3, ha3, lb3, hb3, rfl, hF, hG, q1, q2, q3, q4, q5, hb⟩
  replace H := Shut.mk (H.out.add2 (s := saS v3 T la3 ha3) (t := baS u3 Bs lb3 hb3) hb hF (saS.loc _ _ _ _) q1 q2 hG (baS.loc _ _ _ _) q3 q4 q5)
  clear hF hG q1 q2 q3 q4 q5 hb HW
  go_wp2_with fail
  refine (HTO.out _ H.out.bel).mono ?_
  rintro e w5 ⟨g5, c5, rs5, rfl, hl5, he5, hw, hb⟩
  replace H := Shut.mk (H.out.add (s := hsS g5 rs5 _ w5.heap.size) hb hw (hsS.loc _ _ _ _) (Nat.le_refl _) (Nat.le_refl _))
  obtain ⟨l5, h5, H⟩ := hide_hs H
  have H5 := Shut.mk (And.intro hl5 he5)
  clear hb hw hl5 he5
  go_wp2_with fail
  refine (HIM.out _ _ _ _ (show HsW _ _ _ _ _ from H.out.at 0 rfl).row H5.out.1 H5.out.2 H.out.bel).mono ?_
  rintro e w7 ⟨v7, u7, la7, ha7, lb7, hb7, rfl, hF, hG, q1, q2, q3, q4, q5, hb⟩
  replace H := Shut.mk (H.out.add2 (s := saS v7 T la7 ha7) (t := baS u7 Bs lb7 hb7) hb hF (saS.loc _ _ _ _) q1 q2 hG (baS.loc _ _ _ _) q3 q4 q5)
  clear hF hG q1 q2 q3 q4 q5 hb
  go_wp2_with fail
  refine (HES.out _ _ _ _ _ _ _ (H.out.at 0 rfl) (H.out.at 3 rfl)).mono ?_
  rintro e w8a ⟨rfl, hb⟩
  replace H := Shut.mk (H.out.below hb)
  clear hb
  go_wp2_with fail
  refine (HEB.out _ _ _ _ _ _ _ (H.out.at 1 rfl) (H.out.at 4 rfl)).mono ?_
  rintro e w8b ⟨rfl, hb⟩
  replace H := Shut.mk (H.out.below hb)
  clear hb
  go_wp2_with fail
  refine (HTO.out _ H.out.bel).mono ?_
  rintro e w9 ⟨gw9, cw9, rsw9, rfl, hlw9, hew9, hw, hb⟩
  replace H := Shut.mk (H.out.below hb)
  have HW := Shut.mk (And.intro hw.row (And.intro hlw9 hew9))
  clear hb hw hlw9 hew9
  go_wp2_with fail
  refine (HEQ.out _ _ _ _ _ _ _ (show HsW _ _ _ _ _ from H.out.at 2 rfl).row H5.out.1 H5.out.2 HW.out.1 HW.out.2.1 HW.out.2.2).mono ?_
  rintro e w10 ⟨rfl, hb⟩
  replace H := Shut.mk (H.out.below hb)
  clear hb HW
  go_wp2_with fail
  refine (HMH.out _ _ _ _ _ _ (H.out.at 2 rfl) H5.out.1 H5.out.2).mono ?_
  rintro e w11 ⟨rfl, ys, hF, ht⟩
  replace H := Shut.mk (H.out.turn 2 rfl ht hF (hsS.loc _ _ _ _))
  clear hF ht H5
  go_wp2_with fail
  refine (HES.out _ _ _ _ _ _ _ (H.out.at 0 rfl) (H.out.at 3 rfl)).mono ?_
  rintro e w12a ⟨rfl, hb⟩
  replace H := Shut.mk (H.out.below hb)
  clear hb
  go_wp2_with fail
  refine (HEB.out _ _ _ _ _ _ _ (H.out.at 1 rfl) (H.out.at 4 rfl)).mono ?_
  rintro e w12b ⟨rfl, hb⟩
  replace H := Shut.mk (H.out.below hb)
  clear hb
  go_wp2_with fail
  refine (HMS.out _ _ _ _ (H.out.at 0 rfl)).mono ?_
  rintro e w13 ⟨rfl, hF, ht⟩
  replace H := Shut.mk (H.out.turn 0 rfl ht hF (saS.loc _ _ _ _))
  clear hF ht
  go_wp2_with fail
  refine (HMB.out _ _ _ _ (H.out.at 1 rfl)).mono ?_
  rintro e w14 ⟨rfl, hF, ht⟩
  replace H := Shut.mk (H.out.turn 1 rfl ht hF (baS.loc _ _ _ _))
  clear hF ht
  go_wp2_with fail
  refine (HHS.out _ _ _ _ (H.out.at 0 rfl)).mono ?_
  rintro e w15a ⟨rfl, hb⟩
  replace H := Shut.mk (H.out.below hb)
  clear hb
  go_wp2_with fail
  refine (HHB.out _ _ _ _ (H.out.at 1 rfl)).mono ?_
  rintro e w15b ⟨rfl, hb⟩
  replace H := Shut.mk (H.out.below hb)
  clear hb
  go_wp2_with fail
  refine (HTO.out _ H.out.bel).mono ?_
  rintro e w16 ⟨gw16, cw16, rsw16, rfl, hlw16, hew16, hw, hb⟩
  replace H := Shut.mk (H.out.below hb)
  have HW := Shut.mk (And.intro hw.row (And.intro hlw16 hew16))
  clear hb hw hlw16 hew16
  go_wp2_with fail
  refine (HIM.out _ _ _ _ HW.out.1 HW.out.2.1 HW.out.2.2 H.out.bel).mono ?_
  rintro e w17 ⟨v17, u17, la17, ha17, lb17, hb17, rfl, hF, hG, q1, q2, q3, q4, q5, hb⟩
  replace H := Shut.mk (H.out.add2 (s := saS v17 T la17 ha17) (t := baS u17 Bs lb17 hb17) hb hF (saS.loc _ _ _ _) q1 q2 hG (baS.loc _ _ _ _) q3 q4 q5)
  clear hF hG q1 q2 q3 q4 q5 hb HW
  go_wp2_with fail
  refine (HES.out _ _ _ _ _ _ _ (H.out.at 0 rfl) (H.out.at 5 rfl)).mono ?_
  rintro e w18a ⟨rfl, hb⟩
  replace H := Shut.mk (H.out.below hb)
  clear hb
  go_wp2_with fail
  refine (HEB.out _ _ _ _ _ _ _ (H.out.at 1 rfl) (H.out.at 6 rfl)).mono ?_
  rintro e w18b ⟨rfl, hb⟩
  replace H := Shut.mk (H.out.below hb)
  clear hb
  go_wp2_with fail
  refine (HHS.out _ _ _ _ (H.out.at 2 rfl)).mono ?_
  rintro e w19a ⟨rfl, hb⟩
  replace H := Shut.mk (H.out.below hb)
  clear hb
  go_wp2_with fail
  refine (HHB.out _ _ _ _ (H.out.at 3 rfl)).mono ?_
  rintro e w19b ⟨rfl, hb⟩
  replace H := Shut.mk (H.out.below hb)
  clear hb
  go_wp2_with fail
  go_ret
  exact ⟨rfl, H.out.bel⟩
end Go.Proofs.YtoaifodmjkhiiaaDoor
/- TreC: Copies of trees. -/
namespace Go.Proofs.YtoaifodmjkhiiaaDoor
set_option maxRecDepth 100000
open Go.RowKit
attribute [local go_sem ↓] Go.wp_at_zero Go.wp_at_succ

/-- A copy of pieces. -/
def ToPieces (ps : List PM) (w : World) (e : Ending) (w' : World) : Prop := ∃ g, e = .returned (.slice (some ⟨g, 0, none⟩) ps.length ps.length) ∧ w.heap.size ≤ g ∧ WCells w' g (pcs ps) ∧ Below w.heap.size w w'
/-- A copy of a node. -/
def ToNode (r : NR) (w : World) (e : Ending) (w' : World) : Prop := ∃ g, e = .returned (nv ⟨r.nd, some ⟨g, 0, none⟩, r.nd.pieces.length⟩) ∧ w.heap.size ≤ g ∧ WCells w' g (pcs r.nd.pieces) ∧ Below w.heap.size w w'
/-- Three new blocks: what came in, the answer, and what is made on the way. -/
structure Tri (w W : World) (L1 L2 L3 : List Value) : Prop where
  bel : Below w.heap.size w W
  b1 : WCells W w.heap.size L1
  b2 : WCells W (w.heap.size + 1) L2
  b3 : WCells W (w.heap.size + 1 + 1) L3
theorem Tri.new (w : World) (A B C : Array Value) (tA tB tC : TypeId) : Tri w (((w.alloc (.cells A tA)).alloc (.cells B tB)).alloc (.cells C tC)) A.toList B.toList C.toList := by
  have e1 : (w.alloc (.cells A tA)).heap.size = w.heap.size + 1 := by simp
  have e2 : ((w.alloc (.cells A tA)).alloc (.cells B tB)).heap.size = w.heap.size + 1 + 1 := by simp
  refine ⟨(((Below.refl _ _).alloc (Nat.le_refl _) _).alloc (by simp) _).alloc (by simp; omega) _, ((wcells_new w A tA).alloc _).alloc _, ?_, ?_⟩
  · have := (wcells_new (w.alloc (.cells A tA)) B tB).alloc (.cells C tC)
    rw [e1] at this; exact this
  · have := wcells_new ((w.alloc (.cells A tA)).alloc (.cells B tB)) C tC
    rw [e2] at this; exact this
theorem Tri.set {w W : World} {L1 L2 L3 : List Value} (h : Tri w W L1 L2 L3) (i : Nat) (v : Value) (hi : i < L3.length) : Tri w (W.setCell ⟨w.heap.size + 1 + 1, i, none⟩ v) L1 L2 (L3.set i v) :=
  ⟨h.bel.setCell (p := ⟨w.heap.size + 1 + 1, i, none⟩) (by show w.heap.size ≤ w.heap.size + 1 + 1; omega) v, h.b1.other _ _ (by show w.heap.size ≠ w.heap.size + 1 + 1; omega), h.b2.other _ _ (by show w.heap.size + 1 ≠ w.heap.size + 1 + 1; omega), h.b3.set i v hi⟩
theorem Tri.below {w W W' : World} {L1 L2 L3 : List Value} (h : Tri w W L1 L2 L3) (hb : Below W.heap.size W W') : Tri w W' L1 L2 L3 := ⟨h.bel.trans (hb.mono h.bel.size), h.b1.grow hb, h.b2.grow hb, h.b3.grow hb⟩
end Go.Proofs.YtoaifodmjkhiiaaDoor
/- TreD: Copies of rows of nodes, and of trees. -/
namespace Go.Proofs.YtoaifodmjkhiiaaDoor
set_option maxRecDepth 100000
open Go.RowKit
attribute [local go_sem ↓] Go.wp_at_zero Go.wp_at_succ

theorem pcs_ne {ps : List PM} (h : ps ≠ []) : pcs ps ≠ [] := fun e => h (pcs_nil.1 e)
/-- A node that was copied takes its place. -/
theorem TW.copy {wr w2 : World} {g g' : Nat} {gs : List NR} {B : Nat} (h : TW wr g gs B wr.heap.size) (hb : Below wr.heap.size wr w2) (j : Nat) (hj : j < gs.length) (nd : NM) (hg : wr.heap.size ≤ g') (hw : WCells w2 g' (pcs nd.pieces)) (hB : B ≤ wr.heap.size) :
    TW (setW w2 g (j * 9) (ncells ⟨nd, some ⟨g', 0, none⟩, nd.pieces.length⟩)) g (gs.set j ⟨nd, some ⟨g', 0, none⟩, nd.pieces.length⟩) B w2.heap.size := by
  refine GW.put (K := NKind) ((h.below hb).wide (Nat.le_refl _) hb.size) j hj ⟨nd, some ⟨g', 0, none⟩, nd.pieces.length⟩ ?_ ?_
  · exact .inr ⟨g', rfl, by omega, hw.1, by have := h.out.1; omega, hw⟩
  · intro s hs h1 _ e
    rcases h.rows s hs with q | ⟨b, e2, _, q2, _, _⟩
    · exact h1 q
    · have : b = g' := congrArg Addr.block (Option.some.inj (e2.symm.trans e))
      omega
theorem setW_size (w : World) (g off : Nat) (vs : List Value) : (setW w g off vs).heap.size = w.heap.size := by
  induction vs generalizing w off with
  | nil => rfl
  | cons v vs ih => show (setW _ g (off + 1) vs).heap.size = _; rw [ih]; simp [World.setCell]
theorem setW9 (w : World) (g o : Nat) (v0 v1 v2 v3 v4 v5 v6 v7 v8 : Value) : setW w g o [v0, v1, v2, v3, v4, v5, v6, v7, v8] = ((((((((w.setCell ⟨g, o, none⟩ v0).setCell ⟨g, o + 1, none⟩ v1).setCell ⟨g, o + 2, none⟩ v2).setCell ⟨g, o + 3, none⟩ v3).setCell ⟨g, o + 4, none⟩ v4).setCell ⟨g, o + 5, none⟩ v5).setCell ⟨g, o + 6, none⟩ v6).setCell ⟨g, o + 7, none⟩ v7).setCell ⟨g, o + 8, none⟩ v8 := rfl
/-- A copy of a row of nodes. -/
def ToNodes (rs : List NR) (w : World) (e : Ending) (w' : World) : Prop := ∃ g ts, e = .returned (.slice (some ⟨g, 0, none⟩) ts.length ts.length) ∧ nds ts = nds rs ∧ TW w' g ts w.heap.size w'.heap.size ∧ Below w.heap.size w w'
end Go.Proofs.YtoaifodmjkhiiaaDoor
/- TreE: Copies of trees. -/
namespace Go.Proofs.YtoaifodmjkhiiaaDoor
set_option maxRecDepth 100000
open Go.RowKit
attribute [local go_sem ↓] Go.wp_at_zero Go.wp_at_succ

end Go.Proofs.YtoaifodmjkhiiaaDoor
/- TreP: The walks of the models' TreeNew, l10At, l10File. -/
namespace Go.Proofs.YtoaifodmjkhiiaaDoor
set_option maxRecDepth 100000
open Go.RowKit
attribute [local go_sem ↓] Go.wp_at_zero Go.wp_at_succ

theorem nds_at (rs : List NR) (i : Nat) (h : i < rs.length) : (nds rs)[i]'(by rw [nds_len]; exact h) = rs[i].nd := by simp [nds]
end Go.Proofs.YtoaifodmjkhiiaaDoor
/- TreQ: The walk of the model's l10File. -/
namespace Go.Proofs.YtoaifodmjkhiiaaDoor
set_option maxRecDepth 100000
open Go.RowKit
attribute [local go_sem ↓] Go.wp_at_zero Go.wp_at_succ

theorem isInI (x a b : Int) (w : World) (r : Bool) (h : inI x a b = r) : Calls Tryd.prog 78 #[.int .i64 x, .int .i64 a, .int .i64 b] w fun e w' => e = .returned (.bool r) ∧ w' = w := isIn x a b w r h
theorem fileOk_no1 {n : NM} (h : inI n.schema 1 3 = false) : fileOk n = false := by unfold fileOk; rw [h]; rfl
theorem fileOk_no2 {n : NM} (h : n.quota ≠ 0) : fileOk n = false := by unfold fileOk; rw [show (n.quota == 0) = false by simpa using h]; simp
theorem fileOk_no3 {n : NM} (h : ¬ n.pieces.length ≤ 40) : fileOk n = false := by unfold fileOk; rw [decide_eq_false h]; simp
theorem fileOk_no4 {n : NM} (h : inI n.writer 0 9 = false) : fileOk n = false := by unfold fileOk; rw [h]; simp
theorem fileOk_no5 {n : NM} {p : PM} (hp : p ∈ n.pieces) (h : pieceOk n.schema p = false) : fileOk n = false := by
  have : n.pieces.all (pieceOk n.schema) = false := by
    cases e : n.pieces.all (pieceOk n.schema) with
    | false => rfl
    | true => rw [List.all_eq_true] at e; rw [e p hp] at h; cases h
  unfold fileOk; rw [this]; simp
theorem fileOk_yes {n : NM} (h1 : inI n.schema 1 3 = true) (h2 : n.quota = 0) (h3 : n.pieces.length ≤ 40) (h4 : inI n.writer 0 9 = true) (h5 : ∀ p ∈ n.pieces, pieceOk n.schema p = true) : fileOk n = ((sumP n.pieces == n.len) && decide (sumP n.pieces ≤ 1000)) := by
  unfold fileOk
  rw [h1, h2, decide_eq_true h3, h4, show n.pieces.all (pieceOk n.schema) = true from List.all_eq_true.2 h5]
  simp
end Go.Proofs.YtoaifodmjkhiiaaDoor
/- SpH: The models' SumText, l14Ahead, HostOk, l14At, GetUnit. -/
namespace Go.Proofs.YtoaifodmjkhiiaaDoor
set_option maxRecDepth 100000
open Go.RowKit BigFrame
attribute [local go_sem ↓] Go.wp_at_zero Go.wp_at_succ

theorem sumN_low (t : ByteArray) : 0 ≤ sumN t ∧ sumN t ≤ 4294967295 := by
  unfold sumN
  have := (W.sumOf t).isLt
  omega
theorem specSumText (t : ByteArray) (w : World) (hs : t.size ≤ 1048576) : Calls Tryd.prog 38 #[.string t] w fun e w' => e = .returned (.int .i64 (sumN t)) ∧ w' = w := by
  have h := sumN_low t
  have HP := Shut.mk (specSumOf t w hs)
  unfold u32 at HP
  rw [show (((W.sumOf t).toNat : Nat) : Int) = sumN t from rfl] at HP
  generalize sumN t = q at *
  go_enter Tryd.func38, Tryd.ntmps38
  go_wp2_with fail
  refine HP.out.mono ?_
  rintro e w1 ⟨rfl, rfl⟩
  go_wp2_with fail
  go_ret
  exact ⟨rfl, rfl⟩
theorem specAhead (a b : UnM) (w : World) : Calls Tryd.prog 66 #[unv a, unv b] w fun e w' => e = .returned (.bool (unLt a b)) ∧ Below w.heap.size w w' := by
  have hb : Below w.heap.size w ((w.alloc (.cells #[.int .i64 a.group, .int .i64 a.index, .string a.text, .int .i64 a.sum] 65)).alloc (.cells #[.int .i64 b.group, .int .i64 b.index, .string b.text, .int .i64 b.sum] 65)) := ((Below.refl _ _).alloc (Nat.le_refl _) _).alloc (by simp) _
  have HB := Shut.mk hb
  clear hb
  by_cases h1 : a.group < b.group
  · have HE : Shut (unLt a b = true) := ⟨by simp [unLt, h1]⟩
    go_enter Tryd.func66, Tryd.ntmps66
    go_wp2_with fail
    go_ret
    exact ⟨by rw [HE.out]; rfl, HB.out⟩
  · have h1' : decide (a.group < b.group) = false := by simpa using h1
    by_cases h2 : a.group = b.group
    · have h2' : (a.group == b.group) = true := by simpa using h2
      have HE : Shut (unLt a b = decide (a.index < b.index)) := ⟨by unfold unLt; rw [h1', h2']; simp⟩
      clear h2 h1
      go_enter Tryd.func66, Tryd.ntmps66
      go_wp2_with fail
      go_ret
      exact ⟨by rw [HE.out]; rfl, HB.out⟩
    · have h2' : (a.group == b.group) = false := by simpa using h2
      have HE : Shut (unLt a b = false) := ⟨by unfold unLt; rw [h1', h2']; simp⟩
      clear h2 h1
      go_enter Tryd.func66, Tryd.ntmps66
      go_wp2_with fail
      go_ret
      exact ⟨by rw [HE.out]; rfl, HB.out⟩
theorem getD_un (L : List UnM) (k : Nat) (h : k < L.length) : L.getD k default = L[k] := by simp [List.getD, h]
theorem unitsOk_no {L : List UnM} {k : Nat} (hk : k < L.length) (h : unAt L k = false) : unitsOk L = false := by
  cases hb : unitsOk L with
  | false => rfl
  | true => have := List.all_eq_true.1 hb k (by simpa using hk); rw [h] at this; cases this
theorem unitsOk_yes {L : List UnM} (h : ∀ k, k < L.length → unAt L k = true) : unitsOk L = true := List.all_eq_true.2 fun k hk => h k (by simpa using hk)
set_option maxRecDepth 100000 in
set_option maxHeartbeats 4000000 in
theorem specHostOk (H : HM) (a : Option Addr) (cap : Nat) (w : World) (hr : UnRow w a H.us) (hl : H.us.length ≤ 9000000) (hf : UnFits H.us) :
    Calls Tryd.prog 67 #[hov H a cap] w fun e w' => e = .returned (.bool (hostOk H)) ∧ Below w.heap.size w w' := by
  have HS0 := Shut.mk ((SL.start w).new #[.int .i64 H.id, .bool H.up, .slice a H.us.length cap] 46)
  have HR := Shut.mk hr
  have HF := Shut.mk hf
  clear hr hf
  obtain ⟨id, up, us⟩ := H
  show Calls Tryd.prog 67 #[.agg #[.int .i64 id, .bool up, .slice a us.length cap]] w fun e w' => e = .returned (.bool (unitsOk us && inI id 1 7)) ∧ Below w.heap.size w w'
  dsimp only at *
  obtain ⟨n, hn⟩ : ∃ n, n = us.length := ⟨_, rfl⟩
  have HN := Shut.mk hn
  rw [← hn] at HS0 hl ⊢
  clear hn
  go_enter Tryd.func67, Tryd.ntmps67
  go_upto_region 1 with fail
  refine wp_shade (fun W => SL w W [bxS w.heap.size [.int .i64 id, .bool up, .slice a n cap]]) HS0.out ?_
  intro W0 hW
  have HW := Shut.mk hW
  clear HS0 hW
  go_wp2_with fail
  go_loopw [3] (fun i wr => ∃ (k : Nat), i = .int .i64 k ∧ k ≤ n ∧ Shut (∀ j, j < k → unAt us j = true) ∧ Shut (SL w wr [bxS w.heap.size [.int .i64 id, .bool up, .slice a n cap]])) (fun i _ => n - (intOf i).toNat)
  case atStart => exact ⟨0, rfl, Nat.zero_le _, ⟨fun j hj => by omega⟩, HW⟩
  case round =>
    clear HW
    obtain ⟨k, rfl, hk, HG, HW⟩ := hrel
    have x2 := (HW.out.bx 0 rfl 2 _ rfl).1
    by_cases hlt : k < n
    · have hku : k < us.length := by rw [← HN.out]; exact hlt
      obtain ⟨b, off, rfl, lb, hc⟩ := UnRow.at (HR.out.stays HW.out.bel) (by omega)
      obtain ⟨d0, d1, d2, d3⟩ := hc k hku
      obtain ⟨u, hu⟩ : ∃ u, u = us[k] := ⟨_, rfl⟩
      rw [← hu] at d0 d1 d2 d3
      have HU : Shut (us.getD k default = u) := ⟨(getD_un us k hku).trans hu.symm⟩
      have k0 : (0 : Int) ≤ (k : Int) := by omega
      have k1 : (k : Int) < (n : Int) := by omega
      have HC := Shut.mk hc
      have HS := Shut.mk (HW.out.new #[.int .i64 u.group, .int .i64 u.index, .string u.text, .int .i64 u.sum] 65)
      have HSZ : Shut (u.text.size ≤ 9223372036854775807) := ⟨by rw [hu]; exact (HF.out.2 _ (List.getElem_mem hku)).1⟩
      clear hc hu
      go_upto_region 5 with fail
      obtain ⟨bb, hbb⟩ : ∃ q, q = wr.heap.size := ⟨_, rfl⟩
      rw [← hbb] at HS
      rw [← hbb] at lb
      refine wp_shade (fun W => SL w W [bxS bb [.int .i64 u.group, .int .i64 u.index, .string u.text, .int .i64 u.sum], bxS w.heap.size [.int .i64 id, .bool up, .slice (some ⟨b, off, none⟩) n cap]] ∧ Below wr.heap.size wr W) ⟨HS.out, (Below.refl _ _).alloc (Nat.le_refl _) _⟩ ?_
      intro W hW
      rw [← hbb]
      have H := Shut.mk hW.1
      have HBW := Shut.mk hW.2
      have HBB := Shut.mk hbb
      have lw : w.heap.size < W.heap.size := (hW.1.at 1 rfl).1
      have lq : bb < W.heap.size := (hW.1.at 0 rfl).1
      have lbW : b < W.heap.size := Nat.lt_of_lt_of_le (by rw [← hbb]; exact lb) hW.2.size
      have g0 : ∀ X : Grow W, X.val.cell? ⟨bb, 0, none⟩ = some (.int .i64 u.group) := fun X => X.cell (hW.1.bx 0 rfl 0 _ rfl).1 lq
      have g1 : ∀ X : Grow W, X.val.cell? ⟨bb, 1, none⟩ = some (.int .i64 u.index) := fun X => X.cell (hW.1.bx 0 rfl 1 _ rfl).1 lq
      have g2 : ∀ X : Grow W, X.val.cell? ⟨bb, 2, none⟩ = some (.string u.text) := fun X => X.cell (hW.1.bx 0 rfl 2 _ rfl).1 lq
      have g3 : ∀ X : Grow W, X.val.cell? ⟨bb, 3, none⟩ = some (.int .i64 u.sum) := fun X => X.cell (hW.1.bx 0 rfl 3 _ rfl).1 lq
      have gx : ∀ X : Grow W, X.val.cell? ⟨w.heap.size, 2, none⟩ = some (.slice (some ⟨b, off, none⟩) n cap) := fun X => X.cell (hW.1.bx 1 rfl 2 _ rfl).1 lw
      have HGR : Shut (∀ X : Grow W, SL w X.val [bxS w.heap.size [.int .i64 id, .bool up, .slice (some ⟨b, off, none⟩) n cap]]) := ⟨fun X => (SL.tail H.out).below X.bel⟩
      have HNO : Shut (unAt us k = false → unitsOk us = false) := ⟨unitsOk_no hku⟩
      have HONE : Shut (unAt us k = (inI u.group 1 100000 && inI u.index 0 5 && decide (u.text.size ≤ 200) && inI u.sum 0 4294967295 && (decide (k = 0) || unLt (us.getD (k - 1) default) u))) := ⟨by unfold unAt unOne; rw [HU.out]⟩
      clear hW hbb d0 d1 d2 d3 HW HS x2
      cases h_t1 : inI u.group 1 100000 with
      | false =>
        have It1 := Shut.mk (fun X => calls_same (w := W) (fun W' (_ : Below W.heap.size W W') => isInI u.group 1 100000 W' false h_t1) X)
        refine wp_region_grow (by kernel_rfl) (by kernel_rfl) ?_
        repeat (go_big_quiet_step (first | (go_at_call 78; first | with_reducible exact It1.out _ | fail)))
        refine wpQuiet_nil ?_
        rintro _ ⟨X, rfl⟩
        go_wp2_with fail
        go_ret
        exact ⟨by rw [HNO.out (by rw [HONE.out]; simp [*])]; rfl, HGR.out X |>.bel⟩
      | true =>
        have It1 := Shut.mk (fun X => calls_same (w := W) (fun W' (_ : Below W.heap.size W W') => isInI u.group 1 100000 W' true h_t1) X)
        cases h_t2 : inI u.index 0 5 with
        | false =>
          have It2 := Shut.mk (fun X => calls_same (w := W) (fun W' (_ : Below W.heap.size W W') => isInI u.index 0 5 W' false h_t2) X)
          refine wp_region_grow (by kernel_rfl) (by kernel_rfl) ?_
          repeat (go_big_quiet_step (first | (go_at_call 78; first | with_reducible exact It1.out _ | with_reducible exact It2.out _ | fail)))
          refine wpQuiet_nil ?_
          rintro _ ⟨X, rfl⟩
          go_wp2_with fail
          go_ret
          exact ⟨by rw [HNO.out (by rw [HONE.out]; simp [*])]; rfl, HGR.out X |>.bel⟩
        | true =>
          have It2 := Shut.mk (fun X => calls_same (w := W) (fun W' (_ : Below W.heap.size W W') => isInI u.index 0 5 W' true h_t2) X)
          by_cases h_t3 : u.text.size ≤ 200
          case neg =>
            have hd : decide (u.text.size ≤ 200) = false := by simpa using h_t3
            have h2 : decide ((200 : Int) < (u.text.size : Int)) = true := by simp; omega
            refine wp_region_grow (by kernel_rfl) (by kernel_rfl) ?_
            repeat (go_big_quiet_step (first | (go_at_call 78; first | with_reducible exact It1.out _ | with_reducible exact It2.out _ | fail)))
            refine wpQuiet_nil ?_
            rintro _ ⟨X, rfl⟩
            go_wp2_with fail
            go_ret
            exact ⟨by rw [HNO.out (by rw [HONE.out]; simp [*])]; rfl, HGR.out X |>.bel⟩
          have hd : decide (u.text.size ≤ 200) = true := by simpa using h_t3
          have h2 : decide ((200 : Int) < (u.text.size : Int)) = false := by simp; omega
          cases h_t4 : inI u.sum 0 4294967295 with
          | false =>
            have It4 := Shut.mk (fun X => calls_same (w := W) (fun W' (_ : Below W.heap.size W W') => isInI u.sum 0 4294967295 W' false h_t4) X)
            refine wp_region_grow (by kernel_rfl) (by kernel_rfl) ?_
            repeat (go_big_quiet_step (first | (go_at_call 78; first | with_reducible exact It1.out _ | with_reducible exact It2.out _ | with_reducible exact It4.out _ | fail)))
            refine wpQuiet_nil ?_
            rintro _ ⟨X, rfl⟩
            go_wp2_with fail
            go_ret
            exact ⟨by rw [HNO.out (by rw [HONE.out]; simp [*])]; rfl, HGR.out X |>.bel⟩
          | true =>
            have It4 := Shut.mk (fun X => calls_same (w := W) (fun W' (_ : Below W.heap.size W W') => isInI u.sum 0 4294967295 W' true h_t4) X)
            by_cases hz : k = 0
            case pos =>
              have hz' : decide ((0 : Int) < (k : Int)) = false := by simp; omega
              refine wp_region_grow (by kernel_rfl) (by kernel_rfl) ?_
              repeat (go_big_quiet_step (first | (go_at_call 78; first | with_reducible exact It1.out _ | with_reducible exact It2.out _ | with_reducible exact It4.out _ | fail)))
              refine wpQuiet_nil ?_
              rintro _ ⟨X, rfl⟩
              go_wp2_with fail
              go_roundw
              case rel => exact ⟨k + 1, by go_num, by omega, ⟨fun j hj => by rcases Nat.lt_succ_iff_lt_or_eq.1 hj with h | h; exact HG.out j h; subst h; rw [HONE.out]; simp [*]⟩, ⟨HGR.out X⟩⟩
              case measure => simp [intOf]; omega
            have hzd : decide (k = 0) = false := by simpa using hz
            have hz' : decide (0 < k) = true := by simp; omega
            have hz3 : 0 < k := by omega
            obtain ⟨e0, e1, e2, e3⟩ := HC.out (k - 1) (by omega)
            obtain ⟨y, hy⟩ : ∃ y, y = us[k - 1]'(by omega) := ⟨_, rfl⟩
            rw [← hy] at e0 e1 e2 e3
            have HY : Shut (us.getD (k - 1) default = y) := ⟨(getD_un us (k - 1) (by omega)).trans hy.symm⟩
            have p0 : ∀ X : Grow W, X.val.cell? ⟨b, off + (k - 1) * 4, none⟩ = some (.int .i64 y.group) := fun X => X.cell ((HBW.out.cell (p := ⟨b, off + (k - 1) * 4, none⟩) (by rw [← HBB.out]; exact lb)).trans e0) lbW
            have p1 : ∀ X : Grow W, X.val.cell? ⟨b, off + (k - 1) * 4 + 1, none⟩ = some (.int .i64 y.index) := fun X => X.cell ((HBW.out.cell (p := ⟨b, off + (k - 1) * 4 + 1, none⟩) (by rw [← HBB.out]; exact lb)).trans e1) lbW
            have p2 : ∀ X : Grow W, X.val.cell? ⟨b, off + (k - 1) * 4 + 2, none⟩ = some (.string y.text) := fun X => X.cell ((HBW.out.cell (p := ⟨b, off + (k - 1) * 4 + 2, none⟩) (by rw [← HBB.out]; exact lb)).trans e2) lbW
            have p3 : ∀ X : Grow W, X.val.cell? ⟨b, off + (k - 1) * 4 + 3, none⟩ = some (.int .i64 y.sum) := fun X => X.cell ((HBW.out.cell (p := ⟨b, off + (k - 1) * 4 + 3, none⟩) (by rw [← HBB.out]; exact lb)).trans e3) lbW
            have hk1 : (k : Int) - 1 = ((k - 1 : Nat) : Int) := by omega
            have hk2 : (0 : Int) ≤ ((k - 1 : Nat) : Int) := by omega
            have hk3 : ((k - 1 : Nat) : Int) < (n : Int) := by omega
            rw [HY.out] at HONE
            have HAH := Shut.mk (fun X => calls_grow (w := W) (fun W' (_ : Below W.heap.size W W') => specAhead y u W') X)
            clear hy e0 e1 e2 e3 hz
            cases hal : unLt y u with
            | false =>
              rw [hal] at HAH HONE
              refine wp_region_grow (by kernel_rfl) (by kernel_rfl) ?_
              repeat (go_big_quiet_step (first | (go_at_call 78; first | with_reducible exact It1.out _ | with_reducible exact It2.out _ | with_reducible exact It4.out _ | fail) | (go_at_call 66; with_reducible exact HAH.out _)))
              refine wpQuiet_nil ?_
              rintro _ ⟨X, rfl⟩
              go_wp2_with fail
              go_ret
              exact ⟨by rw [HNO.out (by rw [HONE.out]; simp [*])]; rfl, HGR.out X |>.bel⟩
            | true =>
              rw [hal] at HAH HONE
              refine wp_region_grow (by kernel_rfl) (by kernel_rfl) ?_
              repeat (go_big_quiet_step (first | (go_at_call 78; first | with_reducible exact It1.out _ | with_reducible exact It2.out _ | with_reducible exact It4.out _ | fail) | (go_at_call 66; with_reducible exact HAH.out _)))
              refine wpQuiet_nil ?_
              rintro _ ⟨X, rfl⟩
              go_wp2_with fail
              go_roundw
              case rel => exact ⟨k + 1, by go_num, by omega, ⟨fun j hj => by rcases Nat.lt_succ_iff_lt_or_eq.1 hj with h | h; exact HG.out j h; subst h; rw [HONE.out]; simp [*]⟩, ⟨HGR.out X⟩⟩
              case measure => simp [intOf]; omega
    · have e : k = n := by omega
      have HT : Shut (unitsOk us = true) := ⟨unitsOk_yes fun j hj => HG.out j (by have := HN.out; omega)⟩
      have x0 := (HW.out.bx 0 rfl 0 _ rfl).1
      have HI := Shut.mk (fun W => isInI id 1 7 W _ rfl)
      subst e
      go_wp2_with (go_at_call 78; refine (HI.out _).mono ?_; rintro e w1 ⟨rfl, rfl⟩)
      go_ret
      exact ⟨by rw [HT.out]; rfl, HW.out.bel⟩
end Go.Proofs.YtoaifodmjkhiiaaDoor
/- OwS: A row of one's own that is made longer, beside stretches of memory. -/
namespace Go.Proofs.YtoaifodmjkhiiaaDoor
set_option maxRecDepth 100000
open Go.RowKit

structure OwS (w0 W : World) (S : List Str) (ty sz : Nat) (v : Value) (n : Nat) (L : List Value) : Prop where
  sl : SL w0 W S
  own : W.ownsRow w0.heap.size ty sz v n L
  far : ∀ q, v.ownBlock = some q → ∀ s ∈ S, s.hi ≤ q ∨ q < s.lo
section
variable {w0 W W' : World} {S : List Str} {s : Str} {ty sz n : Nat} {v : Value} {L : List Value}
theorem own_row_slice (h : W.ownsRow w0.heap.size ty sz v n L) : ∃ a c, v = .slice a n c := by
  rcases h.2 with ⟨rfl, h0⟩ | ⟨g, cap, cur, e, _⟩
  · exact ⟨none, 0, by rw [h0]⟩
  · exact ⟨_, _, e⟩
theorem OwS.new (h : SL w0 W S) : OwS w0 (W.alloc (.cells #[] ty)) S ty sz (.slice (some ⟨W.heap.size, 0, none⟩) 0 0) 0 [] := by
  refine ⟨h.below ((Below.refl _ _).alloc (Nat.le_refl _) _), World.ownsRow_made (e := ty) (size := sz) (base := w0.heap.size) W #[] 0 h.bel.size (by decide) (by simp), fun q e s hs => ?_⟩
  have eq : W.heap.size = q := by simpa [Value.ownBlock] using e
  have := (h.is s hs).2.2.2
  omega
theorem OwS.nil (h : SL w0 W S) : OwS w0 W S ty sz (.slice none 0 0) 0 [] := ⟨h, World.ownsRow_nil _ _ _ _, fun q e => by cases e⟩
theorem OwS.below (h : OwS w0 W S ty sz v n L) (hb : Below W.heap.size W W') : OwS w0 W' S ty sz v n L :=
  ⟨h.sl.below hb, h.own.kept (row := none) ⟨hb.os, hb.tape, hb.output, hb.size, fun k hk _ => hb.block k hk⟩ (Classical.em _), h.far⟩
theorem OwS.alloc (h : OwS w0 W S ty sz v n L) (o : Obj) : OwS w0 (W.alloc o) S ty sz v n L := h.below ((Below.refl _ _).alloc (Nat.le_refl _) o)
theorem OwS.lt (h : OwS w0 W S ty sz v n L) (q : Nat) (e : v.ownBlock = some q) : w0.heap.size ≤ q ∧ q < W.heap.size := h.own.lt q e
theorem OwS.add (h : OwS w0 W S ty sz v n L) (hb : Below W.heap.size W W') (hp : s.p W') (hl : s.Loc) (h1 : W.heap.size ≤ s.lo) (h2 : s.hi ≤ W'.heap.size) : OwS w0 W' (s :: S) ty sz v n L := by
  have k := h.below hb
  refine ⟨h.sl.add hb hp hl h1 h2, k.own, fun q e x hx => ?_⟩
  rcases List.mem_cons.1 hx with rfl | hx
  · exact .inr (by have := (h.lt q e).2; omega)
  · exact h.far q e x hx
theorem OwS.box (h : OwS w0 W S ty sz v n L) (cs : Array Value) (t : TypeId) : OwS w0 (W.alloc (.cells cs t)) (bxS W.heap.size cs.toList :: S) ty sz v n L :=
  h.add ((Below.refl _ _).alloc (Nat.le_refl _) _) (wcells_new W cs t) (bxS.loc _ _) (Nat.le_refl _) (by simp)
theorem OwS.tail (h : OwS w0 W (s :: S) ty sz v n L) : OwS w0 W S ty sz v n L := ⟨h.sl.tail, h.own, fun q e x hx => h.far q e x (List.mem_cons_of_mem _ hx)⟩
theorem OwS.put (h : OwS w0 W S ty sz v n L) (i : Nat) {b : Nat} {X : List Value} (hs : S[i]? = some (bxS b X)) (j : Nat) (x : Value) (hj : j < X.length) : OwS w0 (W.setCell ⟨b, j, none⟩ x) (S.set i (bxS b (X.set j x))) ty sz v n L := by
  have hm := List.mem_of_getElem? hs
  have hne : ∀ q, v.ownBlock = some q → q ≠ b := fun q e hq => by
    have := h.far q e _ hm
    dsimp only [bxS] at this
    omega
  refine ⟨h.sl.put i hs j x hj, h.own.kept (gb_set' W b j x) ?_, fun q e s hq => ?_⟩
  · cases e : v.ownBlock with
    | none => exact .inl rfl
    | some k => exact .inr fun e2 => hne k e (by cases e2; rfl)
  · obtain ⟨k, hk, rfl⟩ := List.getElem_of_mem hq
    rw [List.length_set] at hk
    by_cases ek : k = i
    · subst ek
      rw [List.getElem_set_self]
      have := h.far q e _ hm
      exact this
    · rw [List.getElem_set_ne (Ne.symm ek)]
      exact h.far q e _ (List.getElem_mem hk)
/-- More is put behind it. -/
theorem OwS.more {Wa : World} {v' : Value} {m : Nat} {L' : List Value} (h : OwS w0 W S ty sz v n L) (hb : Below W.heap.size W Wa) (ho : W'.ownsRow w0.heap.size ty sz v' m L') (hg : Wa.grownBy W' v.ownBlock) (hat : v'.ownBlock = v.ownBlock ∨ v'.ownBlock = some Wa.heap.size) : OwS w0 W' S ty sz v' m L' := by
  have k := h.below hb
  refine ⟨k.sl.grown hg fun q e => ⟨(k.lt q e).1, k.far q e⟩, ho, fun q e s hs => ?_⟩
  rcases hat with e2 | e2
  · exact h.far q (by rw [← e2]; exact e) s hs
  · rw [e2] at e
    have eq : Wa.heap.size = q := by simpa using e
    have := (k.sl.is s hs).2.2.2
    omega
theorem OwS.frw (h : OwS w0 W S ty sz v n L) : ∃ a c, v = .slice a n c ∧ FRw W a L w0.heap.size W.heap.size ∧ n ≤ c := by
  obtain ⟨a, c, rfl⟩ := own_row_slice h.own
  exact ⟨a, c, rfl, (FRw.of_own h.own).1, (FRw.of_own h.own).2⟩
theorem OwS.row (h : OwS w0 W S ty sz v n L) : ∃ a c, v = .slice a n c ∧ CRow W a L ∧ n ≤ c := by
  obtain ⟨a, c, e, h1, h2⟩ := h.frw
  exact ⟨a, c, e, h1.crow, h2⟩
end
end Go.Proofs.YtoaifodmjkhiiaaDoor
/- ApRow: 'append' of a whole row, empty or not, to a row of one's own; and one element more, beside stretches. -/
namespace Go.Proofs.YtoaifodmjkhiiaaDoor
set_option maxRecDepth 100000
open Go.RowKit

theorem wpList_append_row {P : Program} (w : World) {ops : Array Oper} {rest : List Oper} {o : Oper} {a : Act} {Q : Exit → Act → World → Prop} (hgd : o.guard = none) (s x : Operand) (t : TypeId)
    (ho : o.op = .call { callee := .builtin .append, args := #[s, x], argTypes := #[t, t] })
    (base : Nat) (e : TypeId) (i : TypeInfo) (z : Value) (size bytes : Nat) (ht : P.underlying t = some (.slice e)) (hi : P.info? e = some i) (hz : i.zero = some z)
    (hsize : i.size = size) (hby : i.bytes = bytes) (hzs : z.cells.size = size) (hsz : 0 < size)
    (v : Value) (n : Nat) (xs : List Value) (hs : a.eval s = v) (hown : w.ownsRow base e size v n xs)
    (ra : Option Addr) (m c : Nat) (news : List Value) (hx : a.eval x = .slice ra m c) (hl : news.length = m * size) (hrow : CRow w ra news) (h1 : ∀ u ∈ news, u.oneCell' = true)
    (h63 : n + m ≤ maxLen) (hbytes : (n + m) * bytes ≤ 140737488355328) (hbase : base ≤ w.heap.size)
    (h : ∀ v' w', w'.ownsRow base e size v' (n + m) (xs ++ news) → w.grownBy w' v.ownBlock → (v'.ownBlock = v.ownBlock ∨ v'.ownBlock = some w.heap.size) → wpList P ops Q rest (a.put o.dst v') w') :
    wpList P ops Q (o :: rest) a w := by
  by_cases hm : m = 0
  · subst hm
    have hn : news = [] := List.eq_nil_of_length_eq_zero (by rw [hl]; simp)
    subst hn
    have hv : ∃ av cv, v = .slice av n cv ∧ n ≤ cv := by
      rcases hown.2 with ⟨rfl, h0⟩ | ⟨g, cap, cur, e1, _, _, h3, _⟩
      · exact ⟨none, 0, by rw [h0], by omega⟩
      · exact ⟨_, _, e1, h3⟩
    obtain ⟨av, cv, rfl, hcv⟩ := hv
    have hsrc : Src P i.size t (.slice ra 0 c) 0 [] w := by
      cases ra with
      | none => exact Src.ofNil w ht c
      | some q => exact Src.ofSlice w ht q 0 c [] (by simp) (by simp) (by simp)
    refine wpList_plain hgd fun K' hK' => ?_
    unfold Oper.wp
    simp [execOp, ho, resolve, invoke, builtin, hs, hx, run_append_nothing w t t o.type e i ht hi av n cv hcv _ hsrc, Result.andThen]
    exact hK' _ _ (h _ w (by simpa using hown) ⟨rfl, rfl, rfl, Nat.le_refl _, fun _ _ _ => rfl⟩ (.inl rfl))
  · obtain ⟨b, off, rfl, _, hc⟩ := hrow (by rw [hl]; exact Nat.mul_pos (Nat.pos_of_ne_zero hm) hsz)
    refine wpList_append_own_at _ hgd s x t ho base e i z size bytes ht hi hz hsize hby hzs hsz v n xs hs hown ⟨b, off, none⟩ m c news hx hl (fun j u hj => ?_) h1 h63 hbytes hbase (fun v' w' h2 h3 _ h5 => h v' w' h2 h3 h5)
    have e2 : (⟨b, off, none⟩ : Addr).add j = ⟨b, off + j, none⟩ := by cases j <;> simp [Addr.add]
    rw [e2]
    exact hc j u hj
end Go.Proofs.YtoaifodmjkhiiaaDoor
/- SpI: The models' l14Copy, l14At, GetUnit. -/
namespace Go.Proofs.YtoaifodmjkhiiaaDoor
set_option maxRecDepth 100000
open Go.RowKit BigFrame
attribute [local go_sem ↓] Go.wp_at_zero Go.wp_at_succ

theorem uns_one (us : List UnM) : ∀ u ∈ unS us, u.oneCell' = true := by
  intro u hu
  unfold unS at hu
  obtain ⟨x, _, hx⟩ := List.mem_flatMap.1 hu
  simp only [unC, List.mem_cons, List.not_mem_nil, or_false] at hx
  rcases hx with rfl | rfl | rfl | rfl <;> rfl
set_option maxHeartbeats 1000000 in
theorem specCopy14 (H : HM) (a : Option Addr) (cap : Nat) (w : World) (hr : UnRow w a H.us) (hl : H.us.length ≤ 1048576) :
    Calls Tryd.prog 64 #[hov H a cap] w fun e w' => HoPost H w e w' := by
  obtain ⟨i0, hin, hz0, hz1, hz2⟩ := info_parts infoUnit
  have HS0 := Shut.mk (((SL.start w).new #[.int .i64 H.id, .bool H.up, .slice a H.us.length cap] 46).new #[.int .i64 0, .bool false, .slice none 0 0] 46)
  simp only [World.size_alloc] at HS0
  have HR := Shut.mk hr
  clear hr
  obtain ⟨id, up, us⟩ := H
  show Calls Tryd.prog 64 #[.agg #[.int .i64 id, .bool up, .slice a us.length cap]] w fun e w' => HoPost ⟨id, up, us⟩ w e w'
  dsimp only at *
  obtain ⟨n, hn⟩ : ∃ n, n = us.length := ⟨_, rfl⟩
  have HN := Shut.mk hn
  rw [← hn] at HS0 hl ⊢
  clear hn
  go_enter Tryd.func64, Tryd.ntmps64
  go_upto_region 1 with fail
  refine wp_shade (fun W => SL w W [bxS (w.heap.size + 1) [.int .i64 0, .bool false, .slice none 0 0], bxS w.heap.size [.int .i64 id, .bool up, .slice a n cap]]) HS0.out ?_
  intro W hW
  have HW := Shut.mk hW
  clear HS0 hW
  have HO := Shut.mk (OwS.new (ty := 65) (sz := 4) HW.out)
  have hsz := HW.out.bel.size
  have lw := (show WCells W w.heap.size _ from HW.out.at 1 rfl).1
  have x2 := (HW.out.bx 1 rfl 2 _ rfl).1
  go_upto_region 2 with (at_builtin; refine wpList_append_row _ rfl _ _ 44 rfl w.heap.size 65 i0 _ 4 40 Tryd.underlying44 hin hz0 hz1 hz2 rfl (by decide) _ _ _ rfl HO.out.own a n cap (unS us) rfl (by rw [unS_len, HN.out]) (HR.out.stays HO.out.sl.bel) (uns_one us) (by unfold maxLen; omega) (by omega) HO.out.sl.bel.size ?_; intro v6 w6 ho6 hg6 ha6; obtain ⟨a7, c7, rfl⟩ := own_row_slice ho6; have H6 := Shut.mk (HO.out.more (Below.refl _ _) ho6 hg6 ha6); obtain ⟨y2, y2z⟩ := H6.out.sl.bx 1 rfl 2 _ rfl; clear ho6 hg6 ha6 x2 HO; simp only [Nat.zero_add, List.nil_append] at H6)
  have HP := Shut.mk (H6.out.put 1 rfl 2 (.slice a7 n c7) (by simp))
  simp only [List.set_cons_zero, List.set_cons_succ] at HP
  refine wp_shade (fun W' => OwS w W' [bxS (w.heap.size + 1) [.int .i64 0, .bool false, .slice none 0 0], bxS w.heap.size [.int .i64 id, .bool up, .slice a7 n c7]] 65 4 (.slice a7 n c7) n (unS us)) HP.out ?_
  intro W7 h7
  have H7 := Shut.mk h7
  clear h7 HP H6 y2 y2z
  have z0 := (H7.out.sl.bx 1 rfl 0 _ rfl).1
  have z1 := (H7.out.sl.bx 1 rfl 1 _ rfl).1
  have z2 := (H7.out.sl.bx 1 rfl 2 _ rfl).1
  obtain ⟨r0, r0z⟩ := H7.out.sl.bx 0 rfl 0 _ rfl
  obtain ⟨r1, r1z⟩ := H7.out.sl.bx 0 rfl 1 _ rfl
  obtain ⟨r2, r2z⟩ := H7.out.sl.bx 0 rfl 2 _ rfl
  go_wp2_with fail
  have HE := Shut.mk ((((H7.out.put 0 rfl 0 (.int .i64 id) (by simp)).put 0 rfl 1 (.bool up) (by simp)).put 0 rfl 2 (.slice a7 n c7) (by simp)))
  obtain ⟨a8, c8, e8, hf8, hc8⟩ := HE.out.frw
  obtain ⟨rfl, rfl⟩ : a7 = a8 ∧ c7 = c8 := by simpa using e8
  refine bodyPost_ret (v := .agg #[.int .i64 id, .bool up, .slice a7 n c7]) (by simp [results, Tryd.results64, go_sem, r0, r1, r2]) rfl ⟨a7, c7, by rw [HN.out], hf8, by have := HN.out; show us.length ≤ c7; omega, HE.out.sl.bel⟩
/-- The place of a unit. -/
def atN (us : List UnM) (g i : Int) : Int := if unIdx us g i < us.length then (unIdx us g i : Int) else -1
theorem unIdx_found {L : List UnM} {g i : Int} {k : Nat} (hk : k < L.length) (h : (L[k].group == g && L[k].index == i) = true) (hb : ∀ j (hj : j < L.length), j < k → (L[j].group == g && L[j].index == i) = false) : unIdx L g i = k := by
  unfold unIdx
  rw [List.findIdx_eq hk]
  exact ⟨h, fun j hj => hb j (by omega) hj⟩
theorem unIdx_none {L : List UnM} {g i : Int} (hb : ∀ j (hj : j < L.length), (L[j].group == g && L[j].index == i) = false) : unIdx L g i = L.length := by
  unfold unIdx
  rw [List.findIdx_eq_length]
  intro x hx
  obtain ⟨j, hj, rfl⟩ := List.getElem_of_mem hx
  exact hb j hj
theorem atN_found {L : List UnM} {g i : Int} {k : Nat} (hk : k < L.length) (h : (L[k].group == g && L[k].index == i) = true) (hb : ∀ j (hj : j < L.length), j < k → (L[j].group == g && L[j].index == i) = false) : atN L g i = (k : Int) := by
  unfold atN; rw [unIdx_found hk h hb, if_pos hk]
theorem atN_none {L : List UnM} {g i : Int} (hb : ∀ j (hj : j < L.length), (L[j].group == g && L[j].index == i) = false) : atN L g i = -1 := by
  unfold atN; rw [unIdx_none hb, if_neg (Nat.lt_irrefl _)]
set_option maxHeartbeats 1000000 in
theorem specAt14 (H : HM) (a : Option Addr) (cap : Nat) (g i : Int) (w : World) (hr : UnRow w a H.us) (hl : H.us.length ≤ 1048576) :
    Calls Tryd.prog 37 #[hov H a cap, .int .i64 g, .int .i64 i] w fun e w' => e = .returned (.int .i64 (atN H.us g i)) ∧ Below w.heap.size w w' := by
  have HS0 := Shut.mk ((SL.start w).new #[.int .i64 H.id, .bool H.up, .slice a H.us.length cap] 46)
  have HR := Shut.mk hr
  clear hr
  obtain ⟨id, up, us⟩ := H
  show Calls Tryd.prog 37 #[.agg #[.int .i64 id, .bool up, .slice a us.length cap], .int .i64 g, .int .i64 i] w fun e w' => e = .returned (.int .i64 (atN us g i)) ∧ Below w.heap.size w w'
  dsimp only at *
  obtain ⟨n, hn⟩ : ∃ n, n = us.length := ⟨_, rfl⟩
  have HN := Shut.mk hn
  rw [← hn] at HS0 hl ⊢
  clear hn
  obtain ⟨R, hR⟩ : ∃ R, R = atN us g i := ⟨_, rfl⟩
  rw [← hR]
  have HQ := Shut.mk hR
  clear hR
  go_enter Tryd.func37, Tryd.ntmps37
  go_upto_region 1 with fail
  refine wp_shade (fun W => SL w W [bxS w.heap.size [.int .i64 id, .bool up, .slice a n cap]]) HS0.out ?_
  intro W0 hW
  have HW := Shut.mk hW
  clear HS0 hW
  have x2 := (HW.out.bx 0 rfl 2 _ rfl).1
  go_wp2_with fail
  go_loop [7] (fun i9 => ∃ (k : Nat), i9 = .int .i64 k ∧ k ≤ n ∧ Shut (∀ j (hj : j < us.length), j < k → (us[j].group == g && us[j].index == i) = false)) (fun i9 => n - (intOf i9).toNat)
  case atStart => exact ⟨0, rfl, Nat.zero_le _, ⟨fun j _ hj => by omega⟩⟩
  case round =>
    obtain ⟨k, rfl, hk, HG⟩ := hrel
    by_cases hlt : k < n
    · have hku : k < us.length := by rw [← HN.out]; exact hlt
      obtain ⟨b, off, rfl, lb, hc⟩ := UnRow.at (HR.out.stays HW.out.bel) (by omega)
      obtain ⟨d0, d1, d2, d3⟩ := hc k hku
      have HF : Shut ((us[k].group == g && us[k].index == i) = true → R = (k : Int)) := ⟨fun h => HQ.out.trans (atN_found hku h HG.out)⟩
      have HNX : Shut ((us[k].group == g && us[k].index == i) = false → ∀ j (hj : j < us.length), j < k + 1 → (us[j].group == g && us[j].index == i) = false) := ⟨fun h j hj hjk => by
        rcases Nat.lt_succ_iff_lt_or_eq.1 hjk with e | e
        · exact HG.out j hj e
        · subst e; exact h⟩
      obtain ⟨u, hu⟩ : ∃ u, u = us[k] := ⟨_, rfl⟩
      rw [← hu] at d0 d1 d2 d3 HF HNX
      have k0 : (0 : Int) ≤ (k : Int) := by omega
      have k1 : (k : Int) < (n : Int) := by omega
      clear hc hu d2 d3
      cases h1 : u.group == g with
      | false =>
        have HX := Shut.mk (HNX.out (by rw [h1]; rfl))
        go_wp2_with fail
        go_round
        case rel => exact ⟨k + 1, by go_num, by omega, HX⟩
        case measure => simp [intOf]; omega
      | true =>
        cases h2 : u.index == i with
        | false =>
          have HX := Shut.mk (HNX.out (by rw [h1, h2]; rfl))
          go_wp2_with fail
          go_round
          case rel => exact ⟨k + 1, by go_num, by omega, HX⟩
          case measure => simp [intOf]; omega
        | true =>
          have HX := Shut.mk (HF.out (by rw [h1, h2]; rfl))
          go_wp2_with fail
          go_ret
          exact ⟨by rw [HX.out]; rfl, HW.out.bel⟩
    · have HX : Shut (R = -1) := ⟨HQ.out.trans (atN_none fun j hj => HG.out j hj (by have := HN.out; omega))⟩
      obtain rfl : k = n := by omega
      go_wp2_with fail
      go_ret
      exact ⟨by rw [HX.out]; rfl, HW.out.bel⟩
end Go.Proofs.YtoaifodmjkhiiaaDoor
/- SpJ: The model's GetUnit. -/
namespace Go.Proofs.YtoaifodmjkhiiaaDoor
set_option maxRecDepth 100000
open Go.RowKit BigFrame
attribute [local go_sem ↓] Go.wp_at_zero Go.wp_at_succ

theorem idx_lt {us : List UnM} {g i : Int} (h : unIdx us g i < us.length) : atN us g i = (unIdx us g i : Int) := by unfold atN; rw [if_pos h]
theorem idx_no {us : List UnM} {g i : Int} (h : ¬ unIdx us g i < us.length) : atN us g i = -1 := by unfold atN; rw [if_neg h]
/-- The unit at a place, in every later world. -/
theorem un_at {w W : World} {a : Option Addr} {us : List UnM} (hr : UnRow w a us) (hb : Below w.heap.size w W) {k : Nat} (hk : k < us.length) : ∃ b off u, a = some ⟨b, off, none⟩ ∧ u = us[k] ∧ b < w.heap.size ∧ ∀ X, Below W.heap.size W X → X.cell? ⟨b, off + k * 4, none⟩ = some (.int .i64 u.group) ∧ X.cell? ⟨b, off + k * 4 + 1, none⟩ = some (.int .i64 u.index) ∧ X.cell? ⟨b, off + k * 4 + 2, none⟩ = some (.string u.text) ∧ X.cell? ⟨b, off + k * 4 + 3, none⟩ = some (.int .i64 u.sum) := by
  obtain ⟨b, off, e, lb, _⟩ := UnRow.at hr (by omega)
  refine ⟨b, off, us[k], e, rfl, lb, fun X hX => ?_⟩
  obtain ⟨b', off', e', _, hc⟩ := UnRow.at (hr.stays (hb.trans (hX.mono hb.size))) (by omega)
  rw [e] at e'
  simp only [Option.some.injEq, Addr.mk.injEq, and_true] at e'
  obtain ⟨rfl, rfl⟩ := e'
  exact hc k hk
set_option maxRecDepth 100000 in
set_option maxHeartbeats 2000000 in
theorem specGetUnit (H : HM) (a : Option Addr) (cap : Nat) (g i : Int) (w : World) (hr : UnRow w a H.us) (hl : H.us.length ≤ 1048576) (hz : unSum H.us ≤ 1048576) :
    Calls Tryd.prog 22 #[hov H a cap, .int .i64 g, .int .i64 i] w fun e w' => e = .returned (.tuple #[.string (getX H g i).1, .bool (getX H g i).2]) ∧ Below w.heap.size w w' := by
  have HS0 := Shut.mk ((SL.start w).new #[.int .i64 H.id, .bool H.up, .slice a H.us.length cap] 46)
  have HR := Shut.mk hr
  have HA := Shut.mk (fun (W : World) (hb : Below w.heap.size w W) => specAt14 H a cap g i W (hr.stays hb) hl)
  have HZ : Shut (∀ u ∈ H.us, u.text.size ≤ 1048576) := ⟨fun u hu => by have := unSum_mem hu; omega⟩
  clear hr hz
  obtain ⟨id, up, us⟩ := H
  obtain ⟨R, hR⟩ : ∃ R, R = getX ⟨id, up, us⟩ g i := ⟨_, rfl⟩
  rw [← hR]
  obtain ⟨t0, b0⟩ := R
  have HQ := Shut.mk hR
  clear hR
  show Calls Tryd.prog 22 #[.agg #[.int .i64 id, .bool up, .slice a us.length cap], .int .i64 g, .int .i64 i] w fun e w' => e = .returned (.tuple #[.string t0, .bool b0]) ∧ Below w.heap.size w w'
  dsimp only [hov] at *
  obtain ⟨n, hn⟩ : ∃ n, n = us.length := ⟨_, rfl⟩
  have HN := Shut.mk hn
  rw [← hn] at HS0 HA hl ⊢
  clear hn
  obtain ⟨ki, hki⟩ : ∃ q, q = atN us g i := ⟨_, rfl⟩
  rw [← hki] at HA
  have HK := Shut.mk hki
  clear hki
  go_enter Tryd.func22, Tryd.ntmps22
  go_upto_region 1 with fail
  refine wp_shade (fun W => SL w W [bxS w.heap.size [.int .i64 id, .bool up, .slice a n cap]]) HS0.out ?_
  intro W0 hW
  have HW := Shut.mk hW
  clear HS0 hW
  have x0 := (HW.out.bx 0 rfl 0 _ rfl).1
  have x1 := (HW.out.bx 0 rfl 1 _ rfl).1
  have x2 := (HW.out.bx 0 rfl 2 _ rfl).1
  go_upto_region 2 with (go_at_call 37; refine (HA.out _ HW.out.bel).mono ?_; rintro e w1 ⟨rfl, hb⟩; replace HW := Shut.mk (HW.out.below hb); clear hb x0 x1 x2)
  have lw := (show WCells w1 w.heap.size _ from HW.out.at 0 rfl).1
  have g1 : ∀ X : Grow w1, X.val.cell? ⟨w.heap.size, 1, none⟩ = some (.bool up) := fun X => X.cell (HW.out.bx 0 rfl 1 _ rfl).1 lw
  have g2 : ∀ X : Grow w1, X.val.cell? ⟨w.heap.size, 2, none⟩ = some (.slice a n cap) := fun X => X.cell (HW.out.bx 0 rfl 2 _ rfl).1 lw
  have HGR : Shut (∀ X : Grow w1, SL w X.val [bxS w.heap.size [.int .i64 id, .bool up, .slice a n cap]]) := ⟨fun X => HW.out.below X.bel⟩
  cases hup : up with
  | false =>
    have HE : Shut ((t0, b0) = ((⟨#[]⟩ : ByteArray), false)) := ⟨by rw [HQ.out]; unfold getX; rw [hup]; simp⟩
    rw [hup] at g1 HGR
    refine wp_region_grow (by kernel_rfl) (by kernel_rfl) ?_
    repeat (go_big_quiet_step (fail))
    refine wpQuiet_nil ?_
    rintro _ ⟨X, rfl⟩
    go_wp2_with fail
    go_ret2
    have e1 := HE.out
    simp only [Prod.mk.injEq] at e1
    exact ⟨by rw [e1.1, e1.2]; rfl, (HGR.out X).bel⟩
  | true =>
    rw [hup] at g1 HGR HQ
    by_cases hf : unIdx us g i < us.length
    · obtain ⟨k, hk⟩ : ∃ k, k = unIdx us g i := ⟨_, rfl⟩
      have hki : ki = (k : Int) := by rw [HK.out, idx_lt hf, hk]
      rw [← hk] at hf
      obtain ⟨b, off, u, rfl, hu, lb, hc⟩ := un_at HR.out HW.out.bel hf
      have HE : Shut ((t0, b0) = if unSound u then (u.text, true) else ((⟨#[]⟩ : ByteArray), false)) := ⟨by
        rw [HQ.out]; unfold getX; dsimp only; rw [← hk, getD_un us k hf, ← hu]; simp [hf]⟩
      have HSU := Shut.mk (fun X : Grow w1 => calls_same (w := w1) (fun W' (_ : Below w1.heap.size w1 W') => specSumText u.text W' (by rw [hu]; exact HZ.out _ (List.getElem_mem hf))) X)
      unfold unSound at HE
      generalize sumN u.text = sn at HE HSU
      subst hki
      have k0 : (0 : Int) ≤ (k : Int) := by omega
      have k1 : (k : Int) < (n : Int) := by have := HN.out; omega
      have k2 : decide ((k : Int) < 0) = false := by simp
      have p2 : ∀ X : Grow w1, X.val.cell? ⟨b, off + k * 4 + 2, none⟩ = some (.string u.text) := fun X => (hc X.val X.bel).2.2.1
      have p3 : ∀ X : Grow w1, X.val.cell? ⟨b, off + k * 4 + 3, none⟩ = some (.int .i64 u.sum) := fun X => (hc X.val X.bel).2.2.2
      have HC := Shut.mk hc
      clear hc hk hu hf
      cases hs : u.sum == sn with
      | false =>
        have hs' : (u.sum != sn) = true := by rw [bne, hs]; rfl
        rw [hs] at HE
        refine wp_region_grow (by kernel_rfl) (by kernel_rfl) ?_
        repeat (go_big_quiet_step (first | (go_at_call 38; with_reducible exact HSU.out _)))
        refine wpQuiet_nil ?_
        rintro _ ⟨X, rfl⟩
        go_wp2_with fail
        go_ret2
        have e1 := HE.out
        simp only [Bool.false_eq_true, if_false, Prod.mk.injEq] at e1
        exact ⟨by rw [e1.1, e1.2]; rfl, (HGR.out X).bel⟩
      | true =>
        have hs' : (u.sum != sn) = false := by rw [bne, hs]; rfl
        rw [hs] at HE
        refine wp_region_grow (by kernel_rfl) (by kernel_rfl) ?_
        repeat (go_big_quiet_step (first | (go_at_call 38; with_reducible exact HSU.out _)))
        refine wpQuiet_nil ?_
        rintro _ ⟨X, rfl⟩
        have y2 := g2 X
        have y3 := p2 X
        clear g1 g2 p2 p3
        go_wp2_with fail
        go_ret2
        have e1 := HE.out
        simp only [if_true, Prod.mk.injEq] at e1
        exact ⟨by rw [e1.1, e1.2]; rfl, (HGR.out X).bel⟩
    · have hki : ki = -1 := by rw [HK.out, idx_no hf]
      have HE : Shut ((t0, b0) = ((⟨#[]⟩ : ByteArray), false)) := ⟨by rw [HQ.out]; unfold getX; simp [hf]⟩
      subst hki
      clear hf
      refine wp_region_grow (by kernel_rfl) (by kernel_rfl) ?_
      repeat (go_big_quiet_step (fail))
      refine wpQuiet_nil ?_
      rintro _ ⟨X, rfl⟩
      go_wp2_with fail
      go_ret2
      have e1 := HE.out
      simp only [Prod.mk.injEq] at e1
      exact ⟨by rw [e1.1, e1.2]; rfl, (HGR.out X).bel⟩
end Go.Proofs.YtoaifodmjkhiiaaDoor
/- UoS: The models' UnitsOf and LeftOf. -/
namespace Go.Proofs.YtoaifodmjkhiiaaDoor
set_option maxRecDepth 100000
open Go.RowKit BigFrame
attribute [local go_sem ↓] Go.wp_at_zero Go.wp_at_succ

theorem infoStrU : (Tryd.prog.info? 9).map (fun i => (i.zero, i.size, i.bytes)) = some (some (.string ⟨#[]⟩), 1, 16) := by kernel_rfl
set_option maxRecDepth 100000 in
set_option maxHeartbeats 4000000 in
theorem specUnitsOf (a : Option Addr) (rs : List HoR) (cap : Nat) (s g : Int) (w : World) (hr : HsRow w a rs) (hl : rs.length ≤ 1048576) (hz : hsSum (hms rs) ≤ 1048576) :
    Calls Tryd.prog 7 #[.slice a rs.length cap, .int .i64 s, .int .i64 g] w fun e w' => UPost (unitsT (hms rs) s g) (unitsB (hms rs) s g) w e w' := by
  obtain ⟨i0, hi, hz0, hz1, hz2⟩ := info_parts infoStrU
  obtain ⟨i1, hi', hy0, hy1, hy2⟩ := info_parts infoBoolG
  have HSC := Shut.mk (fun W => specSchema s W)
  obtain ⟨n, hn⟩ : ∃ n, n = rs.length := ⟨_, rfl⟩
  have HN := Shut.mk hn
  have HR := Shut.mk (And.intro hr hz)
  obtain ⟨T, hT⟩ : ∃ q, q = unitsT (hms rs) s g := ⟨_, rfl⟩
  obtain ⟨Bs, hBs⟩ : ∃ q, q = unitsB (hms rs) s g := ⟨_, rfl⟩
  obtain ⟨m, hm⟩ : ∃ q, q = schN s := ⟨_, rfl⟩
  have hm6 : m ≤ 6 := by rw [hm]; exact schN_le s
  have HTL : Shut (T.length = m ∧ Bs.length = m) := ⟨by rw [hT, hBs, hm]; exact ⟨unitsT_len _ _ _, unitsB_len _ _ _⟩⟩
  have HTA : Shut (∀ k, k < m → T[k]? = some (firstU (hms rs) g (k : Nat)).1 ∧ Bs[k]? = some (firstU (hms rs) g (k : Nat)).2) := ⟨fun k hk => by rw [hT, hBs]; unfold unitsT unitsB unitsL; simp [← hm, hk]⟩
  rw [← hn, ← hT, ← hBs]
  rw [← hn] at hl
  have HM : Shut (m = schK s + schM s) := ⟨by rw [hm]; rfl⟩
  unfold SchPost at HSC
  generalize schK s = ka at *
  generalize schM s = kb at *
  generalize schOk s = kc at *
  have hkm : (ka : Int) + (kb : Int) = (m : Int) := by have := HM.out; omega
  clear hr hz hT hBs hm hn
  go_enter Tryd.func7, Tryd.ntmps7
  go_upto_region 2 with (go_at_call 28; refine (HSC.out _).mono ?_; rintro e w1 ⟨rfl, hw1⟩; subst hw1)
  go_wp2_with (at_make; refine wpList_make_full _ rfl _ _ 24 rfl w1.heap.size 9 i0 _ 1 Tryd.underlying24 hi hz0 hz1 .i64 .i64 _ _ m rfl rfl (by omega) (by omega) ?b2 ?b3 ?b4 ?_)
  case b2 => rw [hz2]; omega
  case b3 => unfold maxLen; omega
  case b4 => omega
  intro wm hownm hgrm
  have hbm : Below w1.heap.size w1 wm := (Below.refl _ _).grown hgrm (Nat.le_refl _) (fun j hj => by simp at hj)
  have hrow : WCells wm w1.heap.size (tv (filT T 0 m)) := by
    have h := own_wcells hownm
    have e : (madeCells #[Value.string ⟨#[]⟩] (m * 1)).toList = tv (filT T 0 m) := by rw [toList_madeCells_one]; simp [tv, filT]
    rw [Nat.mul_one] at e
    first | (rw [e] at h; exact h) | (rw [Nat.mul_one, e] at h; exact h)
  have H1 := Shut.mk ((SL.start w1).add (s := bxS w1.heap.size (tv (filT T 0 m))) hbm hrow (bxS.loc _ _) (Nat.le_refl _) hrow.1)
  clear hownm hgrm hrow hbm
  go_wp2_with (at_make; refine wpList_make_full _ rfl _ _ 25 rfl wm.heap.size 4 i1 _ 1 Tryd.underlying25 hi' hy0 hy1 .i64 .i64 _ _ m rfl rfl (by omega) (by omega) ?b2 ?b3 ?b4 ?_)
  case b2 => rw [hy2]; omega
  case b3 => unfold maxLen; omega
  case b4 => omega
  intro wb hownm hgrm
  have hbm : Below wm.heap.size wm wb := (Below.refl _ _).grown hgrm (Nat.le_refl _) (fun j hj => by simp at hj)
  have hrow : WCells wb wm.heap.size (bcs (filB Bs 0 m)) := by
    have h := own_wcells hownm
    have e : (madeCells #[Value.bool false] (m * 1)).toList = bcs (filB Bs 0 m) := by rw [toList_madeCells_one]; simp [bcs, filB]
    rw [Nat.mul_one] at e
    first | (rw [e] at h; exact h) | (rw [Nat.mul_one, e] at h; exact h)
  have H2 := Shut.mk (H1.out.add (s := bxS wm.heap.size (bcs (filB Bs 0 m))) hbm hrow (bxS.loc _ _) (Nat.le_refl _) hrow.1)
  have lne : w1.heap.size < wm.heap.size := (H1.out.at 0 rfl).1
  clear hownm hgrm hrow hbm H1
  go_wp2_with fail
  go_loopw [13] (fun i9 wr => ∃ (k : Nat), i9 = .int .i64 (k : Nat) ∧ k ≤ m ∧ Shut (SL w1 wr [bxS wm.heap.size (bcs (filB Bs k m)), bxS w1.heap.size (tv (filT T k m))])) (fun i9 _ => m - (intOf i9).toNat)
  case atStart => exact ⟨0, rfl, Nat.zero_le _, H2⟩
  case round =>
    clear H2
    obtain ⟨k, rfl, hk, HW⟩ := hrel
    by_cases hlt : k < m
    case neg =>
      obtain rfl : m = k := by omega
      have HE : Shut (filT T m m = T ∧ filB Bs m m = Bs) := ⟨by unfold filT filB; rw [Nat.sub_self, ← HTL.out.1, List.take_length, HTL.out.1, ← HTL.out.2, List.take_length]; simp⟩
      have hke : ¬ (m : Int) < (ka : Int) + (kb : Int) := by omega
      go_wp2_with fail
      go_ret2
      refine upost_mk HTL.out.1 HTL.out.2 (Nat.le_refl _) HW.out.bel (.inr ⟨_, _, rfl, rfl, by omega, Nat.le_refl _, by omega, ?_, ?_⟩)
      · have q := HW.out.at 1 rfl; rw [HE.out.1] at q; exact q
      · have q := HW.out.at 0 rfl; rw [HE.out.2] at q; exact q
    have k1 : (k : Int) < (m : Int) := by omega
    have hkl : k < (filT T k m).length ∧ k < (filB Bs k m).length := by rw [filT_len HTL.out.1 hk, filB_len HTL.out.2 hk]; exact ⟨hlt, hlt⟩
    have HKL := Shut.mk hkl
    have HJ0 : Shut (SL w1 wr [bxS wm.heap.size (bcs ((filB Bs k m).set k (firstU ((hms rs).take 0) g (k : Nat)).2)), bxS w1.heap.size (tv ((filT T k m).set k (firstU ((hms rs).take 0) g (k : Nat)).1))]) := ⟨by
      have e : firstU ((hms rs).take 0) g (k : Nat) = (⟨#[]⟩, false) := by simp [firstU]
      rw [e]
      dsimp only
      unfold filT filB
      rw [fil_same T ⟨#[]⟩ k m hlt HTL.out.1, fil_same Bs false k m hlt HTL.out.2]
      exact HW.out⟩
    have k0 : (0 : Int) ≤ (k : Int) := by omega
    clear HW hkl
    go_upto_region 8 with fail
    go_loopw [14] (fun j9 wr => ∃ (j : Nat), j9 = .int .i64 (j : Nat) ∧ j ≤ n ∧ Shut (SL w1 wr [bxS wm.heap.size (bcs ((filB Bs k m).set k (firstU ((hms rs).take j) g (k : Nat)).2)), bxS w1.heap.size (tv ((filT T k m).set k (firstU ((hms rs).take j) g (k : Nat)).1))])) (fun j9 _ => n - (intOf j9).toNat)
    case atStart => exact ⟨0, rfl, Nat.zero_le _, HJ0⟩
    case round =>
      clear HJ0
      obtain ⟨j, rfl, hj, HW⟩ := hrel
      have HST : Shut (∀ f, f = firstU (hms rs) g (k : Nat) → (filT T k m).set k f.1 = filT T (k + 1) m ∧ (filB Bs k m).set k f.2 = filB Bs (k + 1) m) := ⟨fun f hf => by
        obtain ⟨q1, q2⟩ := HTA.out k hlt
        rw [← hf] at q1 q2
        exact ⟨fil_next T _ _ k m hlt HTL.out.1 q1, fil_next Bs _ _ k m hlt HTL.out.2 q2⟩⟩
      by_cases hjn : j < n
      case neg =>
        obtain rfl : n = j := by omega
        have HE := HST.out (firstU ((hms rs).take n) g (k : Nat)) (by rw [List.take_of_length_le (by rw [hms_len, HN.out]; exact Nat.le_refl _)])
        replace HW := HW.out
        rw [HE.1, HE.2] at HW
        replace HW := Shut.mk HW
        clear HE HST
        go_wp2_with fail
        go_roundw
        case rel => exact ⟨k + 1, by go_num, by omega, HW⟩
        case measure => simp [intOf]; omega
      have hjr : j < rs.length := by rw [← HN.out]; exact hjn
      have j0 : (0 : Int) ≤ (j : Int) := by omega
      have j1 : (j : Int) < (n : Int) := by omega
      have hcell := HW.out.bx 0 rfl k (.bool (firstU ((hms rs).take j) g (k : Nat)).2) (by rw [bcs_get _ _ (by rw [List.length_set]; exact HKL.out.2)]; simp [List.getD, HKL.out.2])
      cases hf : (firstU ((hms rs).take j) g (k : Nat)).2 with
      | true =>
        have HE := HST.out (firstU ((hms rs).take j) g (k : Nat)) (firstU_stop g (k : Nat) hf).symm
        rw [hf] at hcell HE
        obtain ⟨c0, z0⟩ := hcell
        replace HW := HW.out
        rw [hf, HE.1, HE.2] at HW
        replace HW := Shut.mk HW
        clear HE HST z0 hf
        go_wp2_with fail
        go_roundw
        case rel => exact ⟨k + 1, by go_num, by omega, HW⟩
        case measure => simp [intOf]; omega
      | false =>
        have e0 := firstU_none hf
        have HNX := Shut.mk (firstU_take (hs := hms rs) (k := j) (by rw [hms_len]; exact hjr) g (k : Nat) hf)
        rw [hf] at hcell
        obtain ⟨c0, z0⟩ := hcell
        obtain ⟨b, off, r, rfl, hre, lb, hc⟩ := hs_at HR.out.1 HW.out.bel hjr
        obtain ⟨d0, d1, d2, d3⟩ := hc wr (Below.refl _ _)
        have hme : (hms rs)[j]'(by rw [hms_len]; exact hjr) = r.h := by rw [hre]; simp [hms]
        rw [hme] at HNX
        have hsm := hsSum_mem (hs := hms rs) (h := r.h) (by rw [← hme]; exact List.getElem_mem _)
        have hsz := HR.out.2
        have HGU := Shut.mk (specGetUnit r.h r.loc r.cap g (k : Nat) wr d3 (by omega) (by omega))
        have hcellT := HW.out.bx 1 rfl k (.string (firstU ((hms rs).take j) g (k : Nat)).1) (by rw [tv_get _ _ (by rw [List.length_set]; exact HKL.out.1)]; simp [List.getD, HKL.out.1])
        rw [e0] at hcellT
        obtain ⟨c1, z1⟩ := hcellT
        obtain ⟨⟨rid, rup, rus⟩, rl, rc⟩ := r
        dsimp only [hov] at *
        obtain ⟨q, hq⟩ : ∃ q, q = rus.length := ⟨_, rfl⟩
        rw [← hq] at d2 HGU
        cases hgb : (getX ⟨rid, rup, rus⟩ g (k : Nat)).2 with
        | false =>
          have hgn := getX_none hgb
          have HSM : Shut ((firstU ((hms rs).take (j + 1)) g (k : Nat)) = (firstU ((hms rs).take j) g (k : Nat))) := ⟨by rw [HNX.out, hgn, e0]⟩
          rw [hgn] at HGU
          clear hc hre hme hq hsm hsz d3 e0 HST HNX hgb hgn hf z0 z1 c1
          go_wp2_with (go_at_call 22; refine HGU.out.mono ?_; rintro e w2 ⟨rfl, hb2⟩; have HW2 := Shut.mk (HW.out.below hb2); clear hb2)
          go_roundw
          case rel => exact ⟨j + 1, by go_num, by omega, ⟨by rw [HSM.out]; exact HW2.out⟩⟩
          case measure => simp [intOf]; omega
        | true =>
          rw [hgb] at HGU
          generalize hgt : (getX ⟨rid, rup, rus⟩ g (k : Nat)).1 = gt at HGU
          have HSM : Shut ((firstU ((hms rs).take (j + 1)) g (k : Nat)) = (gt, true)) := ⟨by rw [HNX.out, ← hgt, ← hgb]⟩
          have HPT : Shut (∀ W, SL w1 W [bxS wm.heap.size (bcs ((filB Bs k m).set k (firstU ((hms rs).take j) g (k : Nat)).2)), bxS w1.heap.size (tv ((filT T k m).set k (firstU ((hms rs).take j) g (k : Nat)).1))] → SL w1 ((W.setCell ⟨w1.heap.size, k, none⟩ (.string gt)).setCell ⟨wm.heap.size, k, none⟩ (.bool true)) [bxS wm.heap.size (bcs ((filB Bs k m).set k (firstU ((hms rs).take (j + 1)) g (k : Nat)).2)), bxS w1.heap.size (tv ((filT T k m).set k (firstU ((hms rs).take (j + 1)) g (k : Nat)).1))]) := ⟨fun W h => by
            have q := (h.put 1 rfl k (.string gt) (by rw [tv_len, List.length_set]; exact HKL.out.1)).put 0 rfl k (.bool true) (by rw [bcs_len, List.length_set]; exact HKL.out.2)
            rw [HSM.out]
            dsimp only [List.set_cons_zero, List.set_cons_succ] at q
            rw [tv_set, bcs_set, List.set_set, List.set_set] at q
            exact q⟩
          have HCS : Shut (∀ W, SL w1 W [bxS wm.heap.size (bcs ((filB Bs k m).set k (firstU ((hms rs).take j) g (k : Nat)).2)), bxS w1.heap.size (tv ((filT T k m).set k (firstU ((hms rs).take j) g (k : Nat)).1))] → W.cell? ⟨w1.heap.size, k, none⟩ = some (.string ⟨#[]⟩) ∧ W.frozen? ⟨w1.heap.size, k, none⟩ = false ∧ W.cell? ⟨wm.heap.size, k, none⟩ = some (.bool false) ∧ W.frozen? ⟨wm.heap.size, k, none⟩ = false) := ⟨fun W h => by
            have t1 := h.bx 1 rfl k (.string (firstU ((hms rs).take j) g (k : Nat)).1) (by rw [tv_get _ _ (by rw [List.length_set]; exact HKL.out.1)]; simp [List.getD, HKL.out.1])
            have t2 := h.bx 0 rfl k (.bool (firstU ((hms rs).take j) g (k : Nat)).2) (by rw [bcs_get _ _ (by rw [List.length_set]; exact HKL.out.2)]; simp [List.getD, HKL.out.2])
            rw [e0] at t1
            rw [hf] at t2
            exact ⟨t1.1, t1.2, t2.1, t2.2⟩⟩
          have hne1 : ¬ wm.heap.size = w1.heap.size := by omega
          have hne2 : ¬ w1.heap.size = wm.heap.size := by omega
          clear hc hre hme hq hsm hsz d3 e0 HST HNX hgb hgt hf z0 z1 c1
          go_wp2_with (go_at_call 22; refine HGU.out.mono ?_; rintro e w2 ⟨rfl, hb2⟩; have HW2 := Shut.mk (HW.out.below hb2); obtain ⟨p0, p1, p2, p3⟩ := HCS.out w2 HW2.out; clear hb2)
          have HW3 := Shut.mk (HPT.out w2 HW2.out)
          go_roundw
          case rel => exact ⟨j + 1, by go_num, by omega, HW3⟩
          case measure => simp [intOf]; omega
set_option maxRecDepth 100000 in
set_option maxHeartbeats 2000000 in
theorem specLeftOf (a : Option Addr) (rs : List HoR) (cap : Nat) (s g : Int) (w : World) (hr : HsRow w a rs) (hl : rs.length ≤ 1048576) (hz : hsSum (hms rs) ≤ 1048576) :
    Calls Tryd.prog 18 #[.slice a rs.length cap, .int .i64 s, .int .i64 g] w fun e w' => e = .returned (.int .i64 (leftX (hms rs) s g : Nat)) ∧ Below w.heap.size w w' := by
  have HU := Shut.mk (specUnitsOf a rs cap s g w hr hl hz)
  have HBL := Shut.mk (unitsB_len (hms rs) s g)
  have hm6 := schN_le s
  unfold leftX
  generalize unitsB (hms rs) s g = Bs at *
  generalize unitsT (hms rs) s g = T at *
  generalize schN s = m at *
  generalize rs.length = n at *
  unfold UPost at HU
  clear hr hl hz
  go_enter Tryd.func18, Tryd.ntmps18
  go_wp2_with (go_at_call 7; refine HU.out.mono ?_; rintro e w1 ⟨v, u, l1, h1, l2, h2, rfl, _, hB, _, _, _, _, _, hb⟩; obtain ⟨bv, dv, rfl, hrow⟩ := hB.see; have HB := Shut.mk (And.intro hrow.crow hb); clear hB hrow hb; rw [HBL.out])
  go_loopw [9, 10] (fun c9 i9 wr => ∃ (k z : Nat), i9 = .int .i64 (k : Nat) ∧ c9 = .int .i64 (z : Nat) ∧ k ≤ m ∧ z ≤ k ∧ wr = w1 ∧ Shut (z = (Bs.take k).count true)) (fun _ i9 _ => m - (intOf i9).toNat)
  case atStart => exact ⟨0, 0, rfl, rfl, Nat.zero_le _, Nat.zero_le _, rfl, ⟨by simp⟩⟩
  case round =>
    obtain ⟨k, z, rfl, rfl, hk, hzk, rfl, HZ⟩ := hrel
    by_cases hlt : k < m
    case neg =>
      obtain rfl : m = k := by omega
      have HE : Shut (z = Bs.count true) := ⟨by rw [HZ.out, List.take_of_length_le (Nat.le_of_eq HBL.out)]⟩
      go_wp2_with fail
      go_ret
      exact ⟨by rw [← HE.out]; rfl, HB.out.2⟩
    have k0 : (0 : Int) ≤ (k : Int) := by omega
    have k1 : (k : Int) < (m : Int) := by omega
    have hkb : k < Bs.length := by rw [HBL.out]; exact hlt
    obtain ⟨b, off, rfl, lb, hc⟩ := crow_bool HB.out.1 (by omega)
    have d0 := hc k hkb
    have HST := Shut.mk (count_step Bs k hkb)
    cases hq : Bs.getD k false with
    | true =>
      rw [hq] at d0 HST
      have HZ2 : Shut (z + 1 = (Bs.take (k + 1)).count true) := ⟨by rw [HST.out, HZ.out]; simp⟩
      clear hc hq HST
      go_wp2_with fail
      go_roundw
      case rel => exact ⟨k + 1, z + 1, by go_num, by go_num, by omega, by omega, by first | rfl | trivial, HZ2⟩
      case measure => simp [intOf]; omega
    | false =>
      rw [hq] at d0 HST
      have HZ2 : Shut (z = (Bs.take (k + 1)).count true) := ⟨by rw [HST.out, HZ.out]; simp⟩
      clear hc hq HST
      go_wp2_with fail
      go_roundw
      case rel => exact ⟨k + 1, z, by go_num, rfl, by omega, by omega, by first | rfl | trivial, HZ2⟩
      case measure => simp [intOf]; omega
end Go.Proofs.YtoaifodmjkhiiaaDoor
