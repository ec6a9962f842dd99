/- Texts of ours, laid one behind the other: TreS, TreT, TreN, TreU, TreW, TreX, TreY, ApM, ApA, ApB, ApF, ApC, ApD, ApE, ApG, ApH, ApI, ApJ, ApK, DrEdE, DrTr, TlA, TreJ, ApR, ApS, ApT, ApU, WayM, WayN. -/
import Derived.Test.YtakhagkhngmpaaaGreatQsTreR
import Derived.Test.YtakhagkhngmpaaaGreatQs2
import Derived.Test.YtakhagkhngmpaaaGreatQsCpB
import Derived.Test.YtakhagkhngmpaaaGreatQs1
import Derived.Maps.AppendAt
import Derived.Deep.RegionHeld3
import Derived.Deep.AppendLies
import Derived.Deep.RegionLaw
import Derived.Deep.CutRange
/- TreS: . -/
namespace Go.Proofs.YtakhagkhngmpaaaGreat
set_option maxRecDepth 100000
open Go.RowKit
attribute [local go_sem ↓] Go.wp_at_zero Go.wp_at_succ
attribute [local irreducible] nodeOk
theorem treeOk_len {T : TM} (h : inI (T.nodes.length : Int) 1 14 = false) : treeOk T = false := by
 unfold treeOk
 unfold inI at h
 have : (decide (1 ≤ T.nodes.length) && decide (T.nodes.length ≤ 14)) = false := by
  rw [← h]
  congr 1
  ·exact decide_eq_decide.2 ⟨fun h => by omega, fun h => by omega⟩
  ·exact decide_eq_decide.2 ⟨fun h => by omega, fun h => by omega⟩
 rw [this]; rfl
theorem treeOk_next {T : TM} (h : ¬ T.next ≤ 100000) : treeOk T = false := by unfold treeOk; rw [decide_eq_false h]; simp
theorem treeOk_no {T : TM} {k : Nat} (hk : k < T.nodes.length) (h : nodeOk T k = false) : treeOk T = false := by
 have : (List.range T.nodes.length).all (nodeOk T) = false := by
  cases e : (List.range T.nodes.length).all (nodeOk T) with
  | false => rfl
  | true => rw [List.all_eq_true] at e; rw [e k (List.mem_range.2 hk)] at h; cases h
 unfold treeOk; rw [this]; simp
theorem treeOk_yes {T : TM} (h1 : inI (T.nodes.length : Int) 1 14 = true) (h2 : T.next ≤ 100000) (h3 : ∀ k, k < T.nodes.length → nodeOk T k = true) : treeOk T = true := by
 rw [inI_iff] at h1
 unfold treeOk
 rw [decide_eq_true (show 1 ≤ T.nodes.length by omega), decide_eq_true (show T.nodes.length ≤ 14 by omega), decide_eq_true h2, show (List.range T.nodes.length).all (nodeOk T) = true from List.all_eq_true.2 (fun k hk => h3 k (List.mem_range.1 hk))]; rfl
set_option maxHeartbeats 2000000 in
theorem specTreeOk {w : World} {v : Value} {T : TM} {lo hi : Nat} (h : TSee w v T lo hi) (hf : NFit T) : Calls Tryz.prog 60 #[v] w fun e w' => e = .returned (.bool (treeOk T)) ∧ Below w.heap.size w w' := by
 obtain ⟨a, cap, rs, rfl, hr, hm⟩ := h
 obtain ⟨n, hn⟩ : ∃ n, n = rs.length := ⟨_, rfl⟩
 have hnl : n = T.nodes.length := by rw [hn, ← hr, nds_len]
 have hp : ∀ r ∈ rs, r.nd.pieces.length ≤ 1048576 ∧ r.nd.name.size ≤ 1048576 := fun r hx => by
  have := nsum_mem (ns := T.nodes) (n := r.nd) (by rw [← hr]; exact List.mem_map.2 ⟨r, hx, rfl⟩)
  unfold NFit at hf
  omega
 have hn9 : n ≤ 1048576 := by unfold NFit at hf; omega
 obtain ⟨R, hR⟩ : ∃ R, R = treeOk T := ⟨_, rfl⟩
 have HR := Shut.mk hR
 obtain ⟨nodes, nx⟩ := T
 dsimp only at hr hnl
 subst hr
 rw [← hR, ← hn]
 have HM := Shut.mk (And.intro hm (And.intro hp (And.intro hn hnl)))
 obtain ⟨W, hW⟩ : ∃ W, W = w.alloc (.cells #[.slice a n cap, .int .i64 nx] 26) := ⟨_, rfl⟩
 have HB : Shut (Below w.heap.size w W) := ⟨by rw [hW]; exact (Below.refl _ _).alloc (Nat.le_refl _) _⟩
 have HX : Shut (WCells W w.heap.size [.slice a n cap, .int .i64 nx]) := ⟨by rw [hW]; exact wcells_new w #[.slice a n cap, .int .i64 nx] 26⟩
 have x0 := (HX.out.2 0 _ rfl).1
 have x1 := (HX.out.2 1 _ rfl).1
 clear hm hp hf hR hn hnl
 cases h1 : inI (n : Int) 1 14 with
 | false =>
  have HE : Shut (R = false) := ⟨by rw [HR.out]; exact treeOk_len (by rw [← HM.out.2.2.2]; exact h1)⟩
  go_enter Tryz.func60, Tryz.ntmps60
  go_upto_region 1 with fail
  rw [← hW]
  clear hW
  go_wp2_with fail
  refine (isInI (n : Int) 1 14 _ false h1).mono ?_
  rintro e w1 ⟨rfl, hw1⟩
  obtain rfl : W = w1 := hw1.symm
  clear hw1
  go_wp2_with fail
  go_ret
  exact ⟨by rw [HE.out]; rfl, HB.out⟩
 | true =>
  have hn14 := (inI_iff.1 h1).2
  by_cases h2 : nx ≤ 100000
  case neg =>
   have h2' : (100000 : Int) < nx := by omega
   have HE : Shut (R = false) := ⟨by rw [HR.out]; exact treeOk_next h2⟩
   go_enter Tryz.func60, Tryz.ntmps60
   go_upto_region 1 with fail
   rw [← hW]
   clear hW
   go_wp2_with fail
   refine (isInI (n : Int) 1 14 _ true h1).mono ?_
   rintro e w1 ⟨rfl, hw1⟩
   obtain rfl : W = w1 := hw1.symm
   clear hw1
   go_wp2_with fail
   go_ret
   exact ⟨by rw [HE.out]; rfl, HB.out⟩
  have h2' : ¬ (100000 : Int) < nx := by omega
  have HY := Shut.mk (fun (q : ∀ k, k < n → nodeOk ⟨nds rs, nx⟩ k = true) => HR.out.trans (treeOk_yes (T := ⟨nds rs, nx⟩) (by show inI ((nds rs).length : Int) 1 14 = true; rw [← HM.out.2.2.2]; exact h1) h2 (fun k hk => q k (by rw [HM.out.2.2.2]; exact hk))))
  have HNO := Shut.mk (fun (k : Nat) (hk : k < n) (q : nodeOk ⟨nds rs, nx⟩ k = false) => HR.out.trans (treeOk_no (T := ⟨nds rs, nx⟩) (by show k < (nds rs).length; rw [← HM.out.2.2.2]; exact hk) q))
  have HND := Shut.mk (fun (W : World) (hW : Below w.heap.size w W) (k : Nat) (hk : k < n) => specNode (cap := cap) (nx := nx) k (HM.out.1.below hW) (by rw [← HM.out.2.2.1]; exact hk) (by rw [← HM.out.2.2.1]; omega) HM.out.2.1)
  rw [← HM.out.2.2.1] at HND
  go_enter Tryz.func60, Tryz.ntmps60
  go_upto_region 1 with fail
  rw [← hW]
  clear hW
  go_wp2_with fail
  refine (isInI (n : Int) 1 14 _ true h1).mono ?_
  rintro e w1 ⟨rfl, hw1⟩
  obtain rfl : W = w1 := hw1.symm
  clear hw1 h1 x0 x1
  have x0 := (HX.out.2 0 _ rfl).1
  have x1 := (HX.out.2 1 _ rfl).1
  go_wp2_with fail
  go_loopw [3] (fun i wr => ∃ (k : Nat), i = .int .i64 k ∧ k ≤ n ∧ Shut (∀ j, j < k → nodeOk ⟨nds rs, nx⟩ j = true) ∧ Shut (Below W.heap.size W wr)) (fun i _ => n - (intOf i).toNat)
  case atStart => exact ⟨0, rfl, Nat.zero_le _, ⟨fun j hj => by omega⟩, ⟨Below.refl _ _⟩⟩
  case round =>
   clear x0 x1
   obtain ⟨k, rfl, hk, hall, hb⟩ := hrel
   have x0 := ((HX.out.grow hb.out).2 0 _ rfl).1
   have x1 := ((HX.out.grow hb.out).2 1 _ rfl).1
   by_cases hlt : k < n
   ·have k1 : (k : Int) < (n : Int) := by omega
    have HC := Shut.mk (HND.out wr (HB.out.trans (hb.out.mono HB.out.size)) k hlt)
    cases hok : nodeOk ⟨nds rs, nx⟩ k with
    | false =>
     have HE := Shut.mk (HNO.out k hlt hok)
     rw [hok] at HC
     clear hok
     go_wp2_with fail
     refine HC.out.mono ?_
     rintro e w2 ⟨rfl, hb2⟩
     have HB2 := Shut.mk (HB.out.trans ((hb.out.trans (hb2.mono hb.out.size)).mono HB.out.size))
     clear hb2
     go_wp2_with fail
     go_ret
     exact ⟨by rw [HE.out]; rfl, HB2.out⟩
    | true =>
     have HAL : Shut (∀ j, j < k + 1 → nodeOk ⟨nds rs, nx⟩ j = true) := ⟨fun j hj => by
      by_cases e : j = k
      ·subst e; exact hok
      ·exact hall.out j (by omega)⟩
     rw [hok] at HC
     clear hok hall
     go_wp2_with fail
     refine HC.out.mono ?_
     rintro e w2 ⟨rfl, hb2⟩
     have HB2 := Shut.mk (hb.out.trans (hb2.mono hb.out.size))
     clear hb2
     go_wp2_with fail
     go_roundw
     case rel => exact ⟨k + 1, by go_num, by omega, HAL, HB2⟩
     case measure => simp [intOf]; omega
   ·have k1 : ¬ (k : Int) < (n : Int) := by omega
    have HE := Shut.mk (HY.out (fun j hj => hall.out j (by omega)))
    go_wp2_with fail
    go_ret
    exact ⟨by rw [HE.out]; rfl, HB.out.trans (hb.out.mono HB.out.size)⟩
end Go.Proofs.YtakhagkhngmpaaaGreat
/- TreT: . -/
namespace Go.Proofs.YtakhagkhngmpaaaGreat
set_option maxRecDepth 100000
open Go.RowKit
attribute [local go_sem ↓] Go.wp_at_zero Go.wp_at_succ
attribute [local irreducible] nodeOk treeOk atI
def belowF (ns : List NM) : Nat → Int → Int → Bool
 | 0, _, _ => false
 | f + 1, id, top => if id = top then true else match ns.findIdx? (fun n => n.id == id) with
  | none => false
  | some k => belowF ns f (ns.getD k default).parent top
theorem belowF_same {ns : List NM} {f : Nat} {c top : Int} (h : c = top) : belowF ns (f + 1) c top = true := by
 conv => lhs; unfold belowF
 rw [if_pos h]
theorem belowF_none {ns : List NM} {f : Nat} {c top : Int} (h0 : c ≠ top) (h : ns.findIdx? (fun n => n.id == c) = none) : belowF ns (f + 1) c top = false := by
 conv => lhs; unfold belowF
 rw [if_neg h0, h]
theorem belowF_some {ns : List NM} {f i : Nat} {c top : Int} (h0 : c ≠ top) (h : ns.findIdx? (fun n => n.id == c) = some i) : belowF ns (f + 1) c top = belowF ns f (ns.getD i default).parent top := by
 conv => lhs; unfold belowF
 rw [if_neg h0, h]
def schemaF (ns : List NM) : Nat → Int → Int
 | 0, _ => 0
 | f + 1, id => match ns.findIdx? (fun n => n.id == id) with
  | none => 0
  | some k => if (ns.getD k default).schema ≠ 0 then (ns.getD k default).schema else schemaF ns f (ns.getD k default).parent
theorem schemaF_none {ns : List NM} {f : Nat} {c : Int} (h : ns.findIdx? (fun n => n.id == c) = none) : schemaF ns (f + 1) c = 0 := by
 conv => lhs; unfold schemaF
 rw [h]
theorem schemaF_some {ns : List NM} {f i : Nat} {c : Int} (h : ns.findIdx? (fun n => n.id == c) = some i) : schemaF ns (f + 1) c = if (ns.getD i default).schema ≠ 0 then (ns.getD i default).schema else schemaF ns f (ns.getD i default).parent := by
 conv => lhs; unfold schemaF
 rw [h]
def schemaAtX (T : TM) (id : Int) : Int := if treeOk T = true then schemaF T.nodes 15 id else 0
theorem at_cases (ns : List NM) (id : Int) : (atI ns id = -1 ∧ ns.findIdx? (fun n => n.id == id) = none) ∨ ∃ i, i < ns.length ∧ atI ns id = (i : Int) ∧ ns.findIdx? (fun n => n.id == id) = some i := by
 unfold atI
 cases h : ns.findIdx? (fun n => n.id == id) with
 | none => exact .inl ⟨rfl, rfl⟩
 | some i =>
  obtain ⟨hi, _⟩ := List.findIdx?_eq_some_iff_getElem.1 h
  exact .inr ⟨i, hi, rfl, rfl⟩
structure BX (w W : World) (a : Option Addr) (n cap : Nat) (nx : Int) : Prop where
 bel : Below w.heap.size w W
 box : WCells W w.heap.size [.slice a n cap, .int .i64 nx]
theorem BX.below {w W W' : World} {a : Option Addr} {n cap : Nat} {nx : Int} (h : BX w W a n cap nx) (hb : Below W.heap.size W W') : BX w W' a n cap nx := ⟨h.bel.trans (hb.mono h.bel.size), h.box.grow hb⟩
theorem BX.new (w : World) (a : Option Addr) (n cap : Nat) (nx : Int) (t : TypeId) : BX w (w.alloc (.cells #[.slice a n cap, .int .i64 nx] t)) a n cap nx := ⟨(Below.refl _ _).alloc (Nat.le_refl _) _, wcells_new w #[.slice a n cap, .int .i64 nx] t⟩
end Go.Proofs.YtakhagkhngmpaaaGreat
/- TreN: . -/
namespace Go.Proofs.YtakhagkhngmpaaaGreat
set_option maxRecDepth 100000
open Go.RowKit
attribute [local go_sem ↓] Go.wp_at_zero Go.wp_at_succ
def kidS (c : Int) (nm : ByteArray) (z : Int) (n : NM) : Int := if n.parent = c ∧ n.name = nm ∧ z = 0 then n.id else z
def kidF (ns : List NM) (c : Int) (nm : ByteArray) : Int := ns.foldl (kidS c nm) 0
def findF (ns : List NM) : List ByteArray → Int → Int
 | [], c => c
 | p :: ps, c => if kidF ns c p = 0 then 0 else findF ns ps (kidF ns c p)
theorem findF_step (ns : List NM) (L : List ByteArray) (j : Nat) (c : Int) (h : j < L.length) : findF ns (L.drop j) c = if kidF ns c (L.getD j ⟨#[]⟩) = 0 then 0 else findF ns (L.drop (j + 1)) (kidF ns c (L.getD j ⟨#[]⟩)) := by
 rw [List.drop_eq_getElem_cons h]
 conv => lhs; unfold findF
 simp [List.getD, h]
def findX (T : TM) (p : ByteArray) : Int := if (splitB p).2 = true ∧ 0 ≤ atI T.nodes 1 then findF T.nodes (splitB p).1 1 else 0
attribute [local irreducible] nodeOk treeOk atI
end Go.Proofs.YtakhagkhngmpaaaGreat
/- TreU: . -/
namespace Go.Proofs.YtakhagkhngmpaaaGreat
set_option maxRecDepth 100000
open Go.RowKit
attribute [local go_sem ↓] Go.wp_at_zero Go.wp_at_succ
attribute [local irreducible] nodeOk treeOk atI
end Go.Proofs.YtakhagkhngmpaaaGreat
/- TreW: . -/
namespace Go.Proofs.YtakhagkhngmpaaaGreat
set_option maxRecDepth 100000
open Go.RowKit
attribute [local go_sem ↓] Go.wp_at_zero Go.wp_at_succ
attribute [local irreducible] nodeOk treeOk atI belowF
def belowL (all ns : List NM) (id : Int) : List Int := (ns.filter fun n => belowF all 15 n.id id).map NM.id
theorem belowL_len (all ns : List NM) (id : Int) : (belowL all ns id).length ≤ ns.length := by
 unfold belowL
 rw [List.length_map]
 exact List.length_filter_le _ _
def belowX (T : TM) (id : Int) : List Int := if treeOk T = true ∧ 0 ≤ atI T.nodes id then belowL T.nodes T.nodes id else []
theorem ics_snoc9 (xs : List Int) (x : Int) : ics xs ++ [.int .i64 x] = ics (xs ++ [x]) := by simp [ics]
theorem own_wider9 {w : World} {B C n sz : Nat} {t : TypeId} {v : Value} {L : List Value} (h : w.ownsRow B t sz v n L) (hC : C ≤ B) : w.ownsRow C t sz v n L := by
 obtain ⟨h1, h | ⟨g, cap, cur, e, hB, rest⟩⟩ := h
 ·exact ⟨h1, .inl h⟩
 ·exact ⟨h1, .inr ⟨g, cap, cur, e, Nat.le_trans hC hB, rest⟩⟩
theorem BX.grown {w W W' : World} {a : Option Addr} {n cap : Nat} {nx : Int} {q : Option Nat} (h : BX w W a n cap nx) (hg : W.grownBy W' q) (hq : ∀ k, q = some k → w.heap.size + 1 ≤ k) : BX w W' a n cap nx := by
 have hb : Below (w.heap.size + 1) W W' := (Below.refl _ _).grown hg (by have := h.box.1; omega) hq
 exact ⟨h.bel.trans (hb.mono (by omega)), h.box.below hb (by omega)⟩
attribute [local irreducible] belowL
end Go.Proofs.YtakhagkhngmpaaaGreat
/- TreX: . -/
namespace Go.Proofs.YtakhagkhngmpaaaGreat
set_option maxRecDepth 100000
open Go.RowKit
attribute [local go_sem ↓] Go.wp_at_zero Go.wp_at_succ
def usedL (ns : List NM) : List Int → Int
 | [] => 0
 | x :: xs => (ns.getD (atI ns x).toNat default).len + usedL ns xs
def usedX (T : TM) (id : Int) : Int := usedL T.nodes (belowX T id)
theorem fileOk_len {n : NM} (h : fileOk n = true) : 0 ≤ n.len ∧ n.len ≤ 1000 := by
 unfold fileOk at h
 simp only [Bool.and_eq_true, beq_iff_eq, decide_eq_true_eq, List.all_eq_true] at h
 obtain ⟨⟨⟨_, h5⟩, h6⟩, h7⟩ := h
 have := (sumP_ok h5).1
 omega
theorem dirOk_len {n : NM} (h : dirOk n = true) : n.len = 0 := by
 unfold dirOk at h
 simp only [Bool.and_eq_true, beq_iff_eq] at h
 exact h.1.1.2
theorem nodeOk_len {T : TM} {i : Nat} (h : nodeOk T i = true) : 0 ≤ (T.nodes.getD i default).len ∧ (T.nodes.getD i default).len ≤ 1000 := by
 unfold nodeOk at h
 simp only [Bool.and_eq_true] at h
 have h3 := h.1.2
 split at h3
 ·have := dirOk_len h3; omega
 ·exact fileOk_len h3
theorem treeOk_node {T : TM} (h : treeOk T = true) {i : Nat} (hi : i < T.nodes.length) : nodeOk T i = true := by
 unfold treeOk at h
 simp only [Bool.and_eq_true, List.all_eq_true] at h
 exact h.2 i (List.mem_range.2 hi)
theorem treeOk_14 {T : TM} (h : treeOk T = true) : T.nodes.length ≤ 14 := by
 unfold treeOk at h
 simp only [Bool.and_eq_true, decide_eq_true_eq] at h
 exact h.1.1.2
theorem belowX_mem {T : TM} {id x : Int} (h : x ∈ belowX T id) : treeOk T = true ∧ ∃ n ∈ T.nodes, n.id = x := by
 unfold belowX at h
 split at h
 ·rename_i hc
  refine ⟨hc.1, ?_⟩
  unfold belowL at h
  obtain ⟨n, hn, rfl⟩ := List.mem_map.1 h
  exact ⟨n, (List.mem_filter.1 hn).1, rfl⟩
 ·simp at h
theorem belowX_at {T : TM} {id x : Int} (h : x ∈ belowX T id) : ∃ i, i < T.nodes.length ∧ atI T.nodes x = (i : Int) ∧ 0 ≤ (T.nodes.getD i default).len ∧ (T.nodes.getD i default).len ≤ 1000 := by
 obtain ⟨hok, n, hn, hid⟩ := belowX_mem h
 rcases at_cases T.nodes x with ⟨_, hno⟩ | ⟨i, hi, hat, _⟩
 ·have := List.findIdx?_eq_none_iff.1 hno n hn
  simp [hid] at this
 ·exact ⟨i, hi, hat, nodeOk_len (treeOk_node hok hi)⟩
theorem belowX_len (T : TM) (id : Int) : (belowX T id).length ≤ 14 := by
 unfold belowX
 split
 ·rename_i hc
  have := belowL_len T.nodes T.nodes id
  have := treeOk_14 hc.1
  omega
 ·simp
attribute [local irreducible] nodeOk treeOk atI belowF belowL belowX
end Go.Proofs.YtakhagkhngmpaaaGreat
/- TreY: . -/
namespace Go.Proofs.YtakhagkhngmpaaaGreat
set_option maxRecDepth 100000
open Go.RowKit
attribute [local go_sem ↓] Go.wp_at_zero Go.wp_at_succ
def roomF (T : TM) (m : Int) : Nat → Nat → Int → Bool
 | 0, _, _ => false
 | f + 1, st, id => match T.nodes.findIdx? (fun n => n.id == id) with
  | none => decide (0 < st)
  | some k => if (T.nodes.getD k default).dir = true ∧ 0 < (T.nodes.getD k default).quota ∧ (T.nodes.getD k default).quota - usedX T id < m then false else roomF T m f (st + 1) (T.nodes.getD k default).parent
theorem roomF_none {T : TM} {m c : Int} {f st : Nat} (h : T.nodes.findIdx? (fun n => n.id == c) = none) : roomF T m (f + 1) st c = decide (0 < st) := by
 conv => lhs; unfold roomF
 rw [h]
theorem roomF_some {T : TM} {m c : Int} {f st i : Nat} (h : T.nodes.findIdx? (fun n => n.id == c) = some i) : roomF T m (f + 1) st c = if (T.nodes.getD i default).dir = true ∧ 0 < (T.nodes.getD i default).quota ∧ (T.nodes.getD i default).quota - usedX T c < m then false else roomF T m f (st + 1) (T.nodes.getD i default).parent := by
 conv => lhs; unfold roomF
 rw [h]
def roomX (T : TM) (id m : Int) : Bool := if treeOk T = true then roomF T m 15 0 id else false
theorem nodeOk_quota {T : TM} {i : Nat} (h : nodeOk T i = true) (hd : (T.nodes.getD i default).dir = true) : 0 ≤ (T.nodes.getD i default).quota ∧ (T.nodes.getD i default).quota ≤ 1000 := by
 unfold nodeOk at h
 simp only [Bool.and_eq_true] at h
 have h3 := h.1.2
 rw [if_pos hd] at h3
 unfold dirOk at h3
 simp only [Bool.and_eq_true] at h3
 exact inI_iff.1 h3.1.1.1.2
theorem usedL_le {ns : List NM} {xs : List Int} (h : ∀ x ∈ xs, 0 ≤ (ns.getD (atI ns x).toNat default).len ∧ (ns.getD (atI ns x).toNat default).len ≤ 1000) : 0 ≤ usedL ns xs ∧ usedL ns xs ≤ 1000 * xs.length := by
 induction xs with
 | nil => simp [usedL]
 | cons x xs ih =>
  have h1 := ih (fun y hy => h y (by simp [hy]))
  have h2 := h x (by simp)
  simp only [usedL, List.length_cons]
  push_cast
  omega
theorem usedX_le (T : TM) (id : Int) : 0 ≤ usedX T id ∧ usedX T id ≤ 14000 := by
 unfold usedX
 have h := usedL_le (ns := T.nodes) (xs := belowX T id) (fun x hx => by
  obtain ⟨i, _, hat, h1⟩ := belowX_at hx
  rw [hat, Int.toNat_natCast]; exact h1)
 have := belowX_len T id
 omega
attribute [local irreducible] nodeOk treeOk atI belowF belowL belowX usedX
end Go.Proofs.YtakhagkhngmpaaaGreat
/- ApM: . -/
namespace Go.Proofs.YtakhagkhngmpaaaGreat
set_option maxRecDepth 100000
def plc (T : TM) (id : Int) : Nat := (atI T.nodes id).toNat
def ndAt (T : TM) (k : Nat) : NM := T.nodes.getD k default
def setN (T : TM) (k : Nat) (x : NM) : TM := ⟨T.nodes.set k x, T.next⟩
def upX (T : TM) (p : ByteArray) : Int := findX T (parentB p).1
def addT (T : TM) (p : ByteArray) (x : NM) : TM := ⟨T.nodes ++ [{ x with id := T.next, parent := upX T p, name := (parentB p).2.1, schema := if x.dir then x.schema else schemaAtX T (upX T p) }], T.next + 1⟩
def addX (T : TM) (p : ByteArray) (x : NM) : TM × Int :=
 if upX T p = 0 then (T, 1)
 else if (ndAt T (plc T (upX T p))).dir = false then (T, 3)
 else if findX T p ≠ 0 then (T, 2)
 else if T.nodes.length = 14 ∨ T.next = 100000 ∨ treeOk (addT T p x) = false then (T, 8)
 else (addT T p x, 0)
def moveT (T : TM) (p : ByteArray) (id : Int) : TM := setN T (plc T id) { ndAt T (plc T id) with parent := upX T p, name := (parentB p).2.1 }
def moveX (T : TM) (p : ByteArray) (id : Int) : TM × Int :=
 if upX T p = 0 then (T, 1)
 else if (ndAt T (plc T (upX T p))).dir = false then (T, 3)
 else if findX T p ≠ 0 then (T, 2)
 else if belowF T.nodes 15 (upX T p) id = true then (T, 7)
 else if treeOk (moveT T p id) = false then (T, 8)
 else (moveT T p id, 0)
def dropT (T : TM) (id : Int) : TM := ⟨T.nodes.filter (fun n => !belowF T.nodes 15 n.id id), T.next⟩
def setX (T : TM) (e : EM) (k : Nat) : TM × Int :=
 if (ndAt T k).dir = false then (T, 3)
 else if e.kind = 5 then (setN T k { ndAt T k with schema := e.num }, 0)
 else if 0 < e.num ∧ e.num < usedX T (ndAt T k).id then (T, 5)
 else (setN T k { ndAt T k with quota := e.num }, 0)
def newP (g : Int) : List Int → List PM
 | [] => []
 | l :: ls => ⟨g, l⟩ :: newP (g + 1) ls
theorem newP_len (g : Int) (ls : List Int) : (newP g ls).length = ls.length := by
 induction ls generalizing g with
 | nil => rfl
 | cons l ls ih => simp [newP, ih]
theorem newP_take (g : Int) (ls : List Int) (j : Nat) (h : j < ls.length) : newP g (ls.take (j + 1)) = newP g (ls.take j) ++ [⟨g + j, ls[j]⟩] := by
 induction ls generalizing g j with
 | nil => simp at h
 | cons l ls ih =>
  cases j with
  | zero => simp [newP]
  | succ j =>
   have := ih (g + 1) j (by simpa using h)
   simp only [List.take_succ_cons, newP, this, List.getElem_cons_succ, List.cons_append]
   simp
   omega
def writeX (T : TM) (e : EM) (k : Nat) (g : Int) : TM × Int :=
 if (ndAt T k).dir = true then (T, 3)
 else if ((e.kind == 9) != ((ndAt T k).writer == 0)) = true then (T, 6)
 else if e.kind = 9 then (setN T k { ndAt T k with writer := e.who }, 0)
 else if e.kind = 8 then (setN T k { ndAt T k with writer := 0 }, 0)
 else if roomX T (ndAt T k).id e.num = false ∨ 1000 < (ndAt T k).len + e.num then (T, 5)
 else if 40 < (ndAt T k).pieces.length + (spansX (ndAt T k).schema e.num).length then (T, 8)
 else (setN T k { ndAt T k with pieces := (ndAt T k).pieces ++ newP g (spansX (ndAt T k).schema e.num), len := (ndAt T k).len + e.num }, 0)
def newDir : NM := ⟨0, 0, ⟨#[]⟩, true, 0, 0, 0, [], 0⟩
def newFile (who : Int) : NM := ⟨0, 0, ⟨#[]⟩, false, 0, 0, 0, [], who⟩
def mayX (T : TM) (e : EM) (g : Int) : Bool := treeOk T && editOk e && inI g 1 99000
def applyX (T : TM) (e : EM) (g : Int) : TM × Int :=
 if mayX T e g = false then (T, 7)
 else if e.kind = 10 then (T, 0)
 else if e.kind = 1 then addX T e.path newDir
 else if e.kind = 2 then addX T e.path (newFile e.who)
 else if findX T e.path = 0 then (T, 1)
 else if e.kind = 3 then moveX T e.dest (findX T e.path)
 else if e.kind = 4 then (dropT T (findX T e.path), 0)
 else if e.kind = 5 ∨ e.kind = 6 then setX T e (plc T (findX T e.path))
 else writeX T e (plc T (findX T e.path)) g
def groupsX (T : TM) (e : EM) (g : Int) : Int :=
 if (applyX T e g).2 ≠ 0 then g
 else if e.kind = 10 then g + 20
 else if e.kind ≠ 7 then g
 else g + (ndAt (applyX T e g).1 (plc T (findX T e.path))).pieces.length - (ndAt T (plc T (findX T e.path))).pieces.length
def stepX (s : TM × Int) (e : EM) : TM × Int := if (applyX s.1 e s.2).2 = 0 then ((applyX s.1 e s.2).1, groupsX s.1 e s.2) else s
def allX (T : TM) (es : List EM) (g : Int) : TM × Int := es.foldl stepX (T, g)
end Go.Proofs.YtakhagkhngmpaaaGreat
/- ApA: . -/
namespace Go.Proofs.YtakhagkhngmpaaaGreat
set_option maxRecDepth 100000
open Go.RowKit
structure MB (w0 w : World) (L : List (Nat × List Value)) : Prop where
 box : ∀ p ∈ L, WCells w p.1 p.2 ∧ w0.heap.size ≤ p.1
 dist : L.Pairwise fun p q => p.1 ≠ q.1
 bel : Below w0.heap.size w0 w
theorem MB.nil (w : World) : MB w w [] := ⟨by simp, List.Pairwise.nil, Below.refl _ _⟩
theorem MB.below {w0 w w' : World} {L : List (Nat × List Value)} (h : MB w0 w L) (hb : Below w.heap.size w w') : MB w0 w' L :=
 ⟨fun p hp => ⟨(h.box p hp).1.grow hb, (h.box p hp).2⟩, h.dist, h.bel.trans (hb.mono h.bel.size)⟩
theorem MB.new {w0 w : World} {L : List (Nat × List Value)} (h : MB w0 w L) (cs : Array Value) (t : TypeId) : MB w0 (w.alloc (.cells cs t)) ((w.heap.size, cs.toList) :: L) := by
 have hb : Below w.heap.size w (w.alloc (.cells cs t)) := (Below.refl _ _).alloc (Nat.le_refl _) _
 refine ⟨fun p hp => ?_, List.pairwise_cons.2 ⟨fun q hq => ?_, h.dist⟩, (h.below hb).bel⟩
 ·rcases List.mem_cons.1 hp with rfl | hp
  ·exact ⟨wcells_new w cs t, h.bel.size⟩
  ·exact (h.below hb).box p hp
 ·have := (h.box q hq).1.1
  show w.heap.size ≠ q.1
  omega
theorem MB.at {w0 w : World} {L : List (Nat × List Value)} (h : MB w0 w L) (i : Nat) {g : Nat} {X : List Value} (hi : L[i]? = some (g, X)) : WCells w g X ∧ w0.heap.size ≤ g := h.box _ (List.mem_of_getElem? hi)
theorem MB.put {w0 w : World} {L : List (Nat × List Value)} (h : MB w0 w L) (i : Nat) {g : Nat} {X : List Value} (hi : L[i]? = some (g, X)) (j : Nat) (v : Value) (hj : j < X.length) : MB w0 (w.setCell ⟨g, j, none⟩ v) (L.set i (g, X.set j v)) := by
 obtain ⟨hl, he⟩ := List.getElem?_eq_some_iff.1 hi
 have hd := List.pairwise_iff_getElem.1 h.dist
 have hk := h.at i hi
 refine ⟨fun p hp => ?_, List.pairwise_iff_getElem.2 fun a b ha hb hab => ?_, h.bel.setCell (p := ⟨g, j, none⟩) hk.2 _⟩
 ·obtain ⟨k, hk', rfl⟩ := List.mem_iff_getElem.1 hp
  rw [List.length_set] at hk'
  rw [List.getElem_set]
  split
  ·exact ⟨hk.1.set j v hj, hk.2⟩
  ·rename_i hne
   refine ⟨(h.box _ (List.getElem_mem hk')).1.other _ _ ?_, (h.box _ (List.getElem_mem hk')).2⟩
   show L[k].1 ≠ g
   have e : L[i].1 = g := by rw [he]
   rcases Nat.lt_or_gt_of_ne hne with q | q
   ·have := hd i k hl hk' q; omega
   ·have := hd k i hk' hl q; omega
 ·rw [List.length_set] at ha hb
  have := hd a b ha hb hab
  have e : L[i].1 = g := by rw [he]
  rw [List.getElem_set, List.getElem_set]
  split
  ·rename_i h1
   subst h1
   split
   ·omega
   ·show g ≠ L[b].1; omega
  ·split
   ·rename_i h2
    subst h2
    show L[a].1 ≠ g
    omega
   ·exact this
theorem MB.far {w0 w w' : World} {L : List (Nat × List Value)} {q : Option Nat} (h : MB w0 w L) (hg : w.grownBy w' q) (hq : ∀ p ∈ L, q ≠ some p.1) (h0 : ∀ k, q = some k → w0.heap.size ≤ k) : MB w0 w' L :=
 ⟨fun p hp => ⟨wc_by (h.box p hp).1 hg (hq p hp), (h.box p hp).2⟩, h.dist, h.bel.grown hg h.bel.size h0⟩
theorem ncs_set (rs : List NR) (k : Nat) (hk : k < rs.length) (f : Nat) (hf : f < 9) (x : Value) (r : NR) (hc : ncells r = (ncells rs[k]).set f x) : (ncs rs).set (k * 9 + f) x = ncs (rs.set k r) := by
 apply List.ext_getElem?
 intro i
 rw [List.getElem?_set]
 have hlen := ncs_len rs
 have hlen2 : (ncs (rs.set k r)).length = rs.length * 9 := by rw [ncs_len, List.length_set]
 by_cases hi : i < rs.length * 9
 ·have e1 : i / 9 < rs.length := by omega
  have e2 : i % 9 < 9 := by omega
  have e3 : i = i / 9 * 9 + i % 9 := by omega
  have a1 : (ncs rs)[i]? = (ncells rs[i / 9])[i % 9]? := by
   rw [show (ncs rs)[i]? = (ncs rs)[i / 9 * 9 + i % 9]? by rw [← e3]]
   exact flat_get ncells_len rs (i / 9) e1 (i % 9) e2
  have a2 : (ncs (rs.set k r))[i]? = (ncells ((rs.set k r)[i / 9]'(by rw [List.length_set]; exact e1)))[i % 9]? := by
   rw [show (ncs (rs.set k r))[i]? = (ncs (rs.set k r))[i / 9 * 9 + i % 9]? by rw [← e3]]
   exact flat_get ncells_len (rs.set k r) (i / 9) (by rw [List.length_set]; exact e1) (i % 9) e2
  rw [a2, List.getElem_set]
  by_cases hik : k * 9 + f = i
  ·have b1 : k = i / 9 := by omega
   have b2 : f = i % 9 := by omega
   rw [if_pos hik, if_pos b1, hc, ← b2, List.getElem?_set_self (by rw [ncells_len]; exact hf), if_pos (by rw [hlen]; omega)]
  ·rw [if_neg hik, a1]
   by_cases b1 : k = i / 9
   ·rw [if_pos b1, hc, List.getElem?_set_ne (by omega)]
    congr 2
    exact (getElem_congr_idx b1).symm
   ·rw [if_neg b1]
 ·rw [if_neg (by omega), List.getElem?_eq_none (by omega), List.getElem?_eq_none (by omega)]
theorem own_zero {w : World} {B n c sz : Nat} {t : TypeId} {q : Addr} {L : List Value} (h : w.ownsRow B t sz (.slice (some q) n c) n L) : q = ⟨q.block, 0, none⟩ := by
 rcases h.2 with ⟨e, _⟩ | ⟨g, cap, cur, e, _⟩
 ·cases e
 ·simp at e
  rw [e.1]
theorem NB.grow {w w5 : World} {B n cap g k gg cap1 : Nat} {rs : List NR} {r : NR} {o : Obj} {new : PM} (h : NB w B (.slice (some ⟨g, 0, none⟩) n cap) rs) (hn : rs.length = n) (hk : rs[k]? = some r) (hgrow : ((w.alloc o).drew).grownBy w5 (Value.slice r.loc r.nd.pieces.length r.cap).ownBlock)
  (ho : w5.ownsRow B 99 2 (.slice (some ⟨gg, 0, none⟩) (r.nd.pieces.length + 1) cap1) (r.nd.pieces.length + 1) (pcs r.nd.pieces ++ pcells new)) (hat : (Value.slice r.loc r.nd.pieces.length r.cap).ownBlock = some gg ∨ gg = w.heap.size + 1) :
  NB (w5.setCell ⟨g, k * 9 + 7, none⟩ (.slice (some ⟨gg, 0, none⟩) (r.nd.pieces.length + 1) cap1)) B (.slice (some ⟨g, 0, none⟩) n cap) (rs.set k ⟨{ r.nd with pieces := r.nd.pieces ++ [new] }, some ⟨gg, 0, none⟩, cap1⟩) := by
 subst hn
 obtain ⟨hk', er⟩ := List.getElem?_eq_some_iff.1 hk
 subst er
 have hba : Below w.heap.size w (w.alloc o).drew := ((Below.refl _ _).alloc (Nat.le_refl _) _).drew
 have hN := h.below hba
 have hlt : ∀ s ∈ rs, ∀ q, s.loc = some q → q.block < w.heap.size := fun s hs q e => ((h.rows s hs).lt q.block (by rw [e]; rfl)).2
 obtain ⟨cg, hcg⟩ := own_blk' hN.own (show (Value.slice (some ⟨g, 0, none⟩) rs.length cap).ownBlock = some g from rfl)
 have hgo : (Value.slice rs[k].loc rs[k].nd.pieces.length rs[k].cap).ownBlock ≠ some g := fun e => by
  obtain ⟨c1, h1⟩ := own_blk' (hN.rows _ (List.getElem_mem hk')) e
  rw [hcg] at h1
  simp at h1
 have hown5 := hN.own.kept hgrow (.inr (by intro e; exact hgo e.symm))
 have hggg : gg ≠ g := by
  have hgl := (h.own.lt g rfl).2
  rcases hat with e | e
  ·intro e2; rw [e2] at e; exact hgo e
  ·omega
 have hst := (hown5.stored (k * 9 + 7) (.slice (some ⟨gg, 0, none⟩) (rs[k].nd.pieces.length + 1) cap1)).1
 have ha := List.pairwise_iff_getElem.1 h.apart
 have hap : ∀ j (hj : j < rs.length), j ≠ k → rs[j].loc ≠ none → rs[k].loc ≠ none → rs[j].loc ≠ rs[k].loc := fun j hj hjk h1 h2 => by
  rcases Nat.lt_or_gt_of_ne hjk with q | q
  ·exact ha j k hj hk' q h1 h2
  ·exact fun e => ha k j hk' hj q h2 h1 e.symm
 refine ⟨?_, fun s hs => ?_, ?_⟩
 ·rw [List.length_set, ← ncs_set rs k hk' 7 (by omega) (.slice (some ⟨gg, 0, none⟩) (rs[k].nd.pieces.length + 1) cap1) _ (by simp [ncells])]
  exact hst
 ·obtain ⟨j, hj, rfl⟩ := List.mem_iff_getElem.1 hs
  rw [List.length_set] at hj
  rw [List.getElem_set]
  split
  ·have e : pcs (rs[k].nd.pieces ++ [new]) = pcs rs[k].nd.pieces ++ pcells new := by simp [pcs]
   show World.ownsRow _ _ _ _ (.slice (some ⟨gg, 0, none⟩) (rs[k].nd.pieces ++ [new]).length cap1) (rs[k].nd.pieces ++ [new]).length (pcs (rs[k].nd.pieces ++ [new]))
   rw [e, List.length_append, List.length_singleton]
   exact ho.kept (gb_set' _ _ _ _) (.inr (by simp [Value.ownBlock]; exact hggg))
  ·rename_i hjk
   have h1 : w5.ownsRow B 99 2 (.slice rs[j].loc rs[j].nd.pieces.length rs[j].cap) rs[j].nd.pieces.length (pcs rs[j].nd.pieces) := by
    refine (hN.rows _ (List.getElem_mem hj)).kept hgrow ?_
    cases e : rs[j].loc with
    | none => exact .inl rfl
    | some q =>
     refine .inr fun e2 => ?_
     cases e3 : rs[k].loc with
     | none => rw [e3] at e2; cases e2
     | some q' =>
      have hne := hap j hj (fun e => hjk e.symm) (by rw [e]; simp) (by rw [e3]; simp)
      rw [e, e3] at hne
      rw [e3] at e2
      have z1 := own_zero (by have := h.rows _ (List.getElem_mem hj); rw [e] at this; exact this)
      have z2 := own_zero (by have := h.rows _ (List.getElem_mem hk'); rw [e3] at this; exact this)
      simp [Value.ownBlock] at e2
      exact hne (by rw [z1, z2, e2])
   refine h1.kept (gb_set' _ _ _ _) ?_
   cases e : rs[j].loc with
   | none => exact .inl rfl
   | some q =>
    refine .inr fun e2 => ?_
    obtain ⟨c1, h2⟩ := own_blk' (hN.rows _ (List.getElem_mem hj)) (by rw [e]; exact e2)
    rw [hcg] at h2
    simp at h2
 ·have hnew : ∀ j (hj : j < rs.length), j ≠ k → rs[j].loc ≠ some ⟨gg, 0, none⟩ := fun j hj hjk e => by
   rcases hat with q | q
   ·cases e3 : rs[k].loc with
    | none => rw [e3] at q; cases q
    | some q' =>
     rw [e3] at q
     have z2 := own_zero (by have := h.rows _ (List.getElem_mem hk'); rw [e3] at this; exact this)
     simp [Value.ownBlock] at q
     exact hap j hj hjk (by rw [e]; simp) (by rw [e3]; simp) (by rw [e, e3, z2, q])
   ·have := hlt _ (List.getElem_mem hj) _ e
    simp at this
    omega
  refine List.pairwise_iff_getElem.2 fun a b ha' hb' hab => ?_
  rw [List.length_set] at ha' hb'
  rw [List.getElem_set, List.getElem_set]
  split
  ·rename_i h1
   rw [if_neg (by omega)]
   intro _ _ e
   exact hnew b hb' (by omega) e.symm
  ·split
   ·rename_i h1 h2
    intro _ _ e
    exact hnew a ha' (by omega) e
   ·exact ha a b ha' hb' hab
theorem NB.put {w : World} {B g cap : Nat} {rs : List NR} (h : NB w B (.slice (some ⟨g, 0, none⟩) rs.length cap) rs) (k : Nat) (hk : k < rs.length) (f : Nat) (hf : f < 9) (x : Value) (r : NR) (hc : ncells r = (ncells rs[k]).set f x) (hl : r.loc = rs[k].loc) (hcp : r.cap = rs[k].cap) (hp : r.nd.pieces = rs[k].nd.pieces) :
  NB (w.setCell ⟨g, k * 9 + f, none⟩ x) B (.slice (some ⟨g, 0, none⟩) rs.length cap) (rs.set k r) := by
 have hgb := gb_set' w g (k * 9 + f) x
 have hst := (h.own.stored (k * 9 + f) x).1
 have hcs := ncs_set rs k hk f hf x r hc
 refine ⟨?_, fun s hs => ?_, ?_⟩
 ·rw [← hcs, List.length_set]
  exact hst
 ·have hs' : ∃ s' ∈ rs, s.loc = s'.loc ∧ s.cap = s'.cap ∧ s.nd.pieces = s'.nd.pieces := by
   rcases List.mem_or_eq_of_mem_set hs with q | q
   ·exact ⟨s, q, rfl, rfl, rfl⟩
   ·subst q; exact ⟨rs[k], List.getElem_mem hk, hl, hcp, hp⟩
  obtain ⟨s', hm, e1, e2, e3⟩ := hs'
  rw [e1, e2, e3]
  refine (h.rows s' hm).kept hgb ?_
  cases e : (Value.slice s'.loc s'.nd.pieces.length s'.cap).ownBlock with
  | none => exact .inl rfl
  | some q =>
   refine .inr fun e2 => ?_
   obtain ⟨c1, h1⟩ := own_blk' (h.rows s' hm) e
   obtain ⟨c2, h2⟩ := own_blk' h.own (show (Value.slice (some ⟨g, 0, none⟩) rs.length cap).ownBlock = some g from rfl)
   cases e2
   rw [h1] at h2
   simp at h2
 ·have ha := List.pairwise_iff_getElem.1 h.apart
  refine List.pairwise_iff_getElem.2 fun a b ha' hb' hab => ?_
  rw [List.length_set] at ha' hb'
  have := ha a b ha' hb' hab
  rw [List.getElem_set, List.getElem_set]
  split
  ·rename_i h1
   subst h1
   rw [if_neg (by omega), hl]
   exact this
  ·split
   ·rename_i h2
    subst h2
    rw [hl]
    exact this
   ·exact this
theorem NB.cellK {w : World} {B n cap g : Nat} {rs : List NR} {k : Nat} {r : NR} (h : NB w B (.slice (some ⟨g, 0, none⟩) n cap) rs) (hn : rs.length = n) (hk : rs[k]? = some r) (f : Nat) (v : Value) (hv : (ncells r)[f]? = some v) : w.cell? ⟨g, k * 9 + f, none⟩ = some v ∧ w.frozen? ⟨g, k * 9 + f, none⟩ = false := by
 subst hn
 obtain ⟨hk', e⟩ := List.getElem?_eq_some_iff.1 hk
 have hw := own_wcells h.own
 have hf : f < 9 := by have := (List.getElem?_eq_some_iff.1 hv).1; rw [ncells_len] at this; exact this
 exact hw.2 _ _ ((flat_get ncells_len rs k hk' f hf).trans (by rw [e]; exact hv))
theorem NB.putK {w : World} {B n cap g : Nat} {rs : List NR} {k : Nat} {r : NR} (h : NB w B (.slice (some ⟨g, 0, none⟩) n cap) rs) (hn : rs.length = n) (hk : rs[k]? = some r) (f : Nat) (hf : f < 9) (x : Value) (r' : NR) (hc : ncells r' = (ncells r).set f x) (hl : r'.loc = r.loc) (hcp : r'.cap = r.cap) (hp : r'.nd.pieces = r.nd.pieces) :
  NB (w.setCell ⟨g, k * 9 + f, none⟩ x) B (.slice (some ⟨g, 0, none⟩) n cap) (rs.set k r') := by
 subst hn
 obtain ⟨hk', e⟩ := List.getElem?_eq_some_iff.1 hk
 subst e
 exact h.put k hk' f hf x r' hc hl hcp hp
theorem NB.lts {w : World} {B : Nat} {v : Value} {rs : List NR} (h : NB w B v rs) : ∀ r ∈ rs, ∀ q, r.loc = some q → q.block < w.heap.size := fun r hr q e => by
 have := (h.rows r hr).lt q.block (by rw [e]; rfl)
 exact this.2
theorem NB.setAway {w : World} {B : Nat} {v : Value} {rs : List NR} (h : NB w B v rs) (g i : Nat) (x : Value) (hv : v.ownBlock ≠ some g) (hr : ∀ r ∈ rs, ∀ q, r.loc = some q → q.block ≠ g) : NB (w.setCell ⟨g, i, none⟩ x) B v rs := by
 refine ⟨h.own.kept (gb_set' w g i x) (.inr hv), fun r hr' => (h.rows r hr').kept (gb_set' w g i x) (.inr fun e => ?_), h.apart⟩
 cases hl : r.loc with
 | none => rw [hl] at e; cases e
 | some q =>
  rw [hl] at e
  simp [Value.ownBlock] at e
  exact hr r hr' q hl e
def ApPost (R : TM × Int) (w : World) (e : Ending) (w' : World) : Prop := ∃ v, e = .returned (.tuple #[v, .int .i64 R.2]) ∧ TAns w' v R.1 w.heap.size w'.heap.size ∧ Below w.heap.size w w'
end Go.Proofs.YtakhagkhngmpaaaGreat
/- ApB: . -/
namespace Go.Proofs.YtakhagkhngmpaaaGreat
set_option maxRecDepth 100000
open Go.RowKit BigFrame
attribute [local go_sem ↓] Go.wp_at_zero Go.wp_at_succ
theorem MB.three (w : World) (c1 c2 c3 : Array Value) (t1 t2 t3 : TypeId) : MB w (((w.alloc (.cells c1 t1)).alloc (.cells c2 t2)).alloc (.cells c3 t3)) [(w.heap.size + 1 + 1, c3.toList), (w.heap.size + 1, c2.toList), (w.heap.size, c1.toList)] := by
 have h := (((MB.nil w).new c1 t1).new c2 t2).new c3 t3
 have e1 : (w.alloc (.cells c1 t1)).heap.size = w.heap.size + 1 := by simp
 have e2 : ((w.alloc (.cells c1 t1)).alloc (.cells c2 t2)).heap.size = w.heap.size + 1 + 1 := by simp
 rw [e1, e2] at h
 exact h
theorem NB.ans {w W : World} {B n cap : Nat} {a : Option Addr} {rs : List NR} {ns : List NM} {nx : Int} (h : NB W B (.slice a n cap) rs) (hr : nds rs = ns) (hB : w.heap.size ≤ B) : TAns W (.agg #[.slice a n cap, .int .i64 nx]) ⟨ns, nx⟩ w.heap.size W.heap.size := by
 subst hr
 exact (h.low hB).fin
theorem NB.box {w : World} {B : Nat} {v : Value} {rs : List NR} (h : NB w B v rs) (L : List (Nat × Value)) (g : Nat) (hg : g < B) : NB (L.foldl (fun w p => w.setCell ⟨g, p.1, none⟩ p.2) w) B v rs := by
 induction L generalizing w with
 | nil => exact h
 | cons p L ih => exact ih (h.setBox g p.1 p.2 hg)
structure FinT (w W : World) (rb : Nat) (v : Value) (nx : Int) (T : TM) : Prop where
 r0 : W.cell? ⟨rb, 0, none⟩ = some v
 r1 : W.cell? ⟨rb, 1, none⟩ = some (.int .i64 nx)
 ans : TAns W (.agg #[v, .int .i64 nx]) T w.heap.size W.heap.size
 bel : Below w.heap.size w W
theorem nds_set (rs : List NR) (k : Nat) (r : NR) : nds (rs.set k r) = (nds rs).set k r.nd := by simp [nds, List.map_set]
end Go.Proofs.YtakhagkhngmpaaaGreat
/- ApF: . -/
namespace Go.Proofs.YtakhagkhngmpaaaGreat
set_option maxRecDepth 100000
theorem atI_mem {ns : List NM} {id : Int} (h : ∃ n ∈ ns, n.id = id) : ∃ k, ∃ hk : k < ns.length, atI ns id = (k : Int) ∧ ns[k].id = id := by
 rcases atI_cases ns id with ⟨-, h2⟩ | ⟨i, hi, h1, h2⟩
 ·obtain ⟨n, hn, e⟩ := h
  exact absurd e (h2 n hn)
 ·exact ⟨i, hi, h1, h2⟩
theorem kid_mem (ns : List NM) (c : Int) (nm : ByteArray) : ∀ (ms : List NM) (z : Int), ms.foldl (kidS c nm) z = z ∨ ∃ n ∈ ms, n.parent = c ∧ n.name = nm ∧ n.id = ms.foldl (kidS c nm) z
 | [], z => .inl rfl
 | m :: ms, z => by
  rw [List.foldl_cons]
  rcases kid_mem ns c nm ms (kidS c nm z m) with h | ⟨n, hn, h1, h2, h3⟩
  ·rw [h]
   unfold kidS
   split
   ·rename_i hc
    exact .inr ⟨m, by simp, hc.1, hc.2.1, rfl⟩
   ·exact .inl rfl
  ·exact .inr ⟨n, by simp [hn], h1, h2, h3⟩
theorem find_mem {ns : List NM} : ∀ (L : List ByteArray) (c : Int), (∃ n ∈ ns, n.id = c) → findF ns L c = 0 ∨ ∃ n ∈ ns, n.id = findF ns L c
 | [], c, h => .inr h
 | p :: ps, c, h => by
  unfold findF
  split
  ·exact .inl rfl
  ·rename_i h0
   refine find_mem ps _ ?_
   rcases kid_mem ns c p ns 0 with e | ⟨n, hn, -, -, e⟩
   ·exact absurd e h0
   ·exact ⟨n, hn, e⟩
theorem find_there {T : TM} {p : ByteArray} (h : findX T p ≠ 0) : ∃ k, ∃ hk : k < T.nodes.length, atI T.nodes (findX T p) = (k : Int) ∧ T.nodes[k].id = findX T p := by
 apply atI_mem
 unfold findX at h ⊢
 split at h
 ·rename_i hc
  rw [if_pos hc]
  have h1 : ∃ n ∈ T.nodes, n.id = 1 := by
   rcases atI_cases T.nodes 1 with ⟨e, -⟩ | ⟨i, hi, -, e⟩
   ·have := hc.2; omega
   ·exact ⟨_, List.getElem_mem hi, e⟩
  rcases find_mem (splitB p).1 1 h1 with e | e
  ·exact absurd e h
  ·exact e
 ·exact absurd rfl h
end Go.Proofs.YtakhagkhngmpaaaGreat
/- ApC: . -/
namespace Go.Proofs.YtakhagkhngmpaaaGreat
set_option maxRecDepth 100000
open Go.RowKit BigFrame
attribute [local go_sem ↓] Go.wp_at_zero Go.wp_at_succ

structure DR (w W : World) (L : List (Nat × List Value)) (B C n cap2 g2 : Nat) (v : Value) (rs2 gs : List NR) : Prop where
 mb : MB w W L
 nb : NB W B (.slice (some ⟨g2, 0, none⟩) n cap2) rs2
 own : W.ownsRow C 47 9 v gs.length (ncs gs)
theorem DR.below {w W W' : World} {L : List (Nat × List Value)} {B C n cap2 g2 : Nat} {v : Value} {rs2 gs : List NR} (h : DR w W L B C n cap2 g2 v rs2 gs) (hb : Below W.heap.size W W') : DR w W' L B C n cap2 g2 v rs2 gs :=
 ⟨h.mb.below hb, h.nb.below hb, h.own.kept (row := none) ⟨hb.os, hb.tape, hb.output, hb.size, fun k hk _ => hb.block k hk⟩ (by
  cases e : v.ownBlock with
  | none => exact .inl rfl
  | some k => exact .inr (by simp))⟩
theorem DR.fin {w W : World} {L : List (Nat × List Value)} {B C n cap2 g2 : Nat} {v : Value} {rs2 gs : List NR} (h : DR w W L B C n cap2 g2 v rs2 gs) (hs : gs.Sublist rs2) (hBC : B ≤ C) : NB W B v gs :=
 ⟨own_lower h.own hBC, fun r hr => h.nb.rows r (hs.subset hr), h.nb.apart.sublist hs⟩
structure WR (w W W0 : World) (L : List (Nat × List Value)) (h1 h4 h9 n cap2 g2 k : Nat) (rs2 : List NR) (nd : NM) (ps : List PM) (lc : Option Addr) (cp : Nat) (la : Option Addr) (ls : List Int) : Prop where
 mb : MB w W L
 nb : NB W W0.heap.size (.slice (some ⟨g2, 0, none⟩) n cap2) (rs2.set k ⟨{ nd with pieces := ps }, lc, cp⟩)
 loc : ∀ q, lc = some q → W0.heap.size ≤ q.block ∧ (q.block < h1 ∨ h9 ≤ q.block)
 lst : ls = [] ∨ ∃ g, la = some ⟨g, 0, none⟩ ∧ h4 ≤ g ∧ g < h9 ∧ WCells W g (ics ls)
 sz : h9 ≤ W.heap.size
theorem WR.step {w W W0 w5 : World} {L : List (Nat × List Value)} {h1 h4 h9 n cap2 g2 k gg cap1 pl : Nat} {rs2 : List NR} {nd : NM} {ps : List PM} {lc : Option Addr} {cp : Nat} {la : Option Addr} {ls : List Int} {o : Obj} {new : PM} (h : WR w W W0 L h1 h4 h9 n cap2 g2 k rs2 nd ps lc cp la ls) (hrl : rs2.length = n) (hk : k < rs2.length) (hpl : pl = ps.length)
  (a1 : W0.heap.size ≤ g2) (a2 : g2 < h1) (a3 : h1 ≤ h4) (a4 : h4 ≤ h9) (hL : ∀ p ∈ L, p.1 < W0.heap.size ∨ (h1 ≤ p.1 ∧ p.1 < h4)) (hw : w.heap.size ≤ W0.heap.size)
  (hgrow : ((W.alloc o).drew).grownBy w5 (Value.slice lc pl cp).ownBlock) (ho : w5.ownsRow W0.heap.size 99 2 (.slice (some ⟨gg, 0, none⟩) (pl + 1) cap1) (pl + 1) (pcs ps ++ pcells new)) (hat : (Value.slice lc pl cp).ownBlock = some gg ∨ gg = W.heap.size + 1) :
  WR w (w5.setCell ⟨g2, k * 9 + 7, none⟩ (.slice (some ⟨gg, 0, none⟩) (pl + 1) cap1)) W0 L h1 h4 h9 n cap2 g2 k rs2 nd (ps ++ [new]) (some ⟨gg, 0, none⟩) cap1 la ls := by
 subst hpl
 have a5 := h.sz
 have hba : Below W.heap.size W (W.alloc o).drew := ((Below.refl _ _).alloc (Nat.le_refl _) _).drew
 have hrow : ∀ j, (Value.slice lc ps.length cp).ownBlock = some j → W0.heap.size ≤ j ∧ (j < h1 ∨ h9 ≤ j) := fun j e => by
  cases hl : lc with
  | none => rw [hl] at e; cases e
  | some q =>
   rw [hl] at e
   simp [Value.ownBlock] at e
   rw [← e]
   exact h.loc q hl
 have hgt : W0.heap.size ≤ gg ∧ (gg < h1 ∨ h9 ≤ gg) := by
  rcases hat with e | e
  ·exact hrow gg e
  ·omega
 have M1 : MB w w5 L := (h.mb.below hba).far hgrow (fun p hp e => by have := hL p hp; have := hrow _ e; omega) (fun j e => by have := hrow j e; omega)
 refine ⟨M1.far (gb_set' _ _ _ _) (fun p hp e => by have := hL p hp; simp at e; omega) (fun j e => by simp at e; omega), ?_, fun q e => by cases e; exact hgt, ?_, ?_⟩
 ·have hg := h.nb.grow (k := k) (r := ⟨{ nd with pieces := ps }, lc, cp⟩) (new := new) (by rw [List.length_set]; exact hrl) (by rw [List.getElem?_set_self hk]) hgrow ho hat
  rw [List.set_set] at hg
  exact hg
 ·rcases h.lst with e | ⟨g, e1, e2, e3, e4⟩
  ·exact .inl e
  ·exact .inr ⟨g, e1, e2, e3, (wc_by (e4.grow hba) hgrow (fun e => by have := hrow g e; omega)).other _ _ (by show g ≠ g2; omega)⟩
 ·have := hgrow.size
  simp at this ⊢
  omega
end Go.Proofs.YtakhagkhngmpaaaGreat
/- ApH: . -/
namespace Go.Proofs.YtakhagkhngmpaaaGreat
set_option maxRecDepth 100000
theorem tree_node {T : TM} (h : treeOk T = true) (i : Nat) (hi : i < T.nodes.length) : nodeOk T i = true := by
 unfold treeOk at h
 simp only [Bool.and_eq_true, List.all_eq_true, List.mem_range] at h
 exact h.2 i hi
theorem tree_len {T : TM} (h : treeOk T = true) : 1 ≤ T.nodes.length ∧ T.nodes.length ≤ 14 ∧ T.next ≤ 100000 := by
 unfold treeOk at h
 simp only [Bool.and_eq_true, decide_eq_true_eq] at h
 exact ⟨h.1.1.1, h.1.1.2, h.1.2⟩
theorem getD_at {ns : List NM} {i : Nat} (hi : i < ns.length) : ns.getD i default = ns[i] := by simp [List.getD, hi]
theorem node_parts {T : TM} (h : treeOk T = true) (i : Nat) (hi : i < T.nodes.length) : (T.nodes[i]).name.size ≤ 8 ∧ (T.nodes[i]).pieces.length ≤ 40 ∧ (T.nodes[i]).id < T.next ∧ 0 ≤ (T.nodes[i]).len ∧ (T.nodes[i]).len ≤ 1000 ∧ (T.nodes[i].dir = true → dirOk T.nodes[i] = true) ∧ (T.nodes[i].dir = false → fileOk T.nodes[i] = true) := by
 have hn := tree_node h i hi
 unfold nodeOk at hn
 rw [getD_at hi] at hn
 simp only [Bool.and_eq_true, decide_eq_true_eq, Bool.or_eq_true] at hn
 obtain ⟨⟨⟨h1, h2⟩, h3⟩, h4⟩ := hn
 have hd : (T.nodes[i].dir = true → dirOk T.nodes[i] = true) := fun e => by rw [if_pos e] at h3; exact h3
 have hf : (T.nodes[i].dir = false → fileOk T.nodes[i] = true) := fun e => by rw [if_neg (by rw [e]; simp)] at h3; exact h3
 refine ⟨?_, ?_, h1, ?_, ?_, hd, hf⟩
 ·rcases h4 with e | e
  ·rw [if_pos e] at h2
   unfold firstOk at h2
   simp only [Bool.and_eq_true, decide_eq_true_eq] at h2
   rw [h2.1.1.2]
   decide
  ·have := e.1.1.1.1
   unfold nameB at this
   exact (nameL_pos this).2
 ·cases hx : T.nodes[i].dir with
  | true =>
   have := hd hx
   unfold dirOk at this
   simp only [Bool.and_eq_true, decide_eq_true_eq] at this
   omega
  | false =>
   have := hf hx
   unfold fileOk at this
   simp only [Bool.and_eq_true, decide_eq_true_eq] at this
   omega
 ·cases hx : T.nodes[i].dir with
  | true =>
   have := hd hx
   unfold dirOk at this
   simp only [Bool.and_eq_true, decide_eq_true_eq, beq_iff_eq] at this
   omega
  | false => exact (fileOk_len (hf hx)).1
 ·cases hx : T.nodes[i].dir with
  | true =>
   have := hd hx
   unfold dirOk at this
   simp only [Bool.and_eq_true, decide_eq_true_eq, beq_iff_eq] at this
   omega
  | false => exact (fileOk_len (hf hx)).2
theorem nsum_le (ns : List NM) (c : Nat) (h : ∀ n ∈ ns, n.name.size + n.pieces.length ≤ c) : nsum ns ≤ c * ns.length := by
 induction ns with
 | nil => simp [nsum]
 | cons n ns ih =>
  have h1 := ih fun x hx => h x (by simp [hx])
  have h2 := h n (by simp)
  simp only [nsum, List.length_cons, Nat.mul_add]
  omega
theorem tree_sum {T : TM} (h : treeOk T = true) : nsum T.nodes ≤ 672 := by
 have h1 := nsum_le T.nodes 48 fun n hn => by
  obtain ⟨i, hi, rfl⟩ := List.mem_iff_getElem.1 hn
  have := node_parts h i hi
  omega
 have := tree_len h
 omega
theorem tree_fit {T : TM} (h : treeOk T = true) : NFit T := by
 have h1 := tree_sum h
 have h2 := tree_len h
 unfold NFit
 omega
theorem nd_mem {T : TM} {k : Nat} (hk : k < T.nodes.length) : ndAt T k = T.nodes[k] := getD_at hk
theorem next_low {T : TM} (h : treeOk T = true) : 1 < T.next := by
 have h2 := tree_len h
 have hn := tree_node h 0 (by omega)
 unfold nodeOk at hn
 rw [getD_at (by omega)] at hn
 simp only [Bool.and_eq_true, decide_eq_true_eq, if_true] at hn
 have h3 := hn.1.1.2
 unfold firstOk at h3
 simp only [Bool.and_eq_true, beq_iff_eq] at h3
 have h4 := hn.1.1.1
 rw [h3.1.1.1.1] at h4
 exact h4
end Go.Proofs.YtakhagkhngmpaaaGreat
/- ApI: . -/
namespace Go.Proofs.YtakhagkhngmpaaaGreat
set_option maxRecDepth 100000
open Go.RowKit BigFrame
attribute [local go_sem ↓] Go.wp_at_zero Go.wp_at_succ
theorem TAns.wide {w : World} {v : Value} {T : TM} {lo hi lo' hi' : Nat} (h : TAns w v T lo hi) (h1 : lo' ≤ lo) (h2 : hi ≤ hi') : TAns w v T lo' hi' := by
 obtain ⟨a, cap, rs, e, hr, hc, q⟩ := h
 refine ⟨a, cap, rs, e, hr, hc, ?_⟩
 rcases q with q | ⟨g, e2, q⟩
 ·exact .inl q
 ·exact .inr ⟨g, e2, q.wide h1 h2⟩
theorem TAns.box {w : World} {v : Value} {T : TM} {lo hi : Nat} (h : TAns w v T lo hi) (g i : Nat) (x : Value) (hg : g < lo) : TAns (w.setCell ⟨g, i, none⟩ x) v T lo hi :=
 h.turned (Turned.of_grown (lo := g) (hi := g + 1) (gb_set' w g i x) (Nat.le_refl _) (by omega)) (by omega)
theorem TAns.see_form {w : World} {v : Value} {T : TM} {lo hi : Nat} (h : TAns w v T lo hi) : ∃ (a : Option Addr) (cap : Nat) (rs : List NR), v = .agg #[.slice a rs.length cap, .int .i64 T.next] ∧ nds rs = T.nodes ∧ rs.length ≤ cap ∧ TR w a rs lo hi := by
 obtain ⟨a, cap, rs, e, hr, hc, h1⟩ := h
 refine ⟨a, cap, rs, e, hr, hc, ?_⟩
 rcases h1 with rfl | ⟨g, rfl, hm⟩
 ·exact GR.nil _ _ _ _ _
 ·exact hm.gr
theorem MB.two (w : World) (c1 c2 : Array Value) (t1 t2 : TypeId) : MB w ((w.alloc (.cells c1 t1)).alloc (.cells c2 t2)) [(w.heap.size + 1, c2.toList), (w.heap.size, c1.toList)] := by
 have h := ((MB.nil w).new c1 t1).new c2 t2
 have e1 : (w.alloc (.cells c1 t1)).heap.size = w.heap.size + 1 := by simp
 rw [e1] at h
 exact h
def ecs (es : List EM) : List Value := es.flatMap ecells
theorem ecs_len (es : List EM) : (ecs es).length = es.length * 5 := flat_len ecells_len es
theorem ecs_at {w : World} {a : Option Addr} {es : List EM} {lo hi : Nat} (h : RRow w a (ecs es) lo hi) (hp : 0 < es.length) : ∃ b off, a = some ⟨b, off, none⟩ ∧ b < w.heap.size ∧ ∀ j (hj : j < es.length), w.cell? ⟨b, off + j * 5, none⟩ = some (.int .i64 es[j].kind) ∧ w.cell? ⟨b, off + j * 5 + 1, none⟩ = some (.string es[j].path) ∧ w.cell? ⟨b, off + j * 5 + 2, none⟩ = some (.string es[j].dest) ∧ w.cell? ⟨b, off + j * 5 + 3, none⟩ = some (.int .i64 es[j].num) ∧ w.cell? ⟨b, off + j * 5 + 4, none⟩ = some (.int .i64 es[j].who) := by
 obtain ⟨b, off, e, _, _, hb, hc⟩ := h (by rw [ecs_len]; omega)
 refine ⟨b, off, e, hb, fun j hj => ?_⟩
 have hg : ∀ i v, (ecells es[j])[i]? = some v → w.cell? ⟨b, off + j * 5 + i, none⟩ = some v := fun i v hv => by
  have hi : i < 5 := by have := (List.getElem?_eq_some_iff.1 hv).1; rw [ecells_len] at this; exact this
  have := hc (j * 5 + i) v ((flat_get ecells_len es j hj i hi).trans hv)
  rw [← Nat.add_assoc] at this
  exact this
 exact ⟨hg 0 _ rfl, hg 1 _ rfl, hg 2 _ rfl, hg 3 _ rfl, hg 4 _ rfl⟩
theorem all_take (T : TM) (es : List EM) (g : Int) (k : Nat) (h : k < es.length) : allX T (es.take (k + 1)) g = stepX (allX T (es.take k) g) es[k] := by
 unfold allX
 rw [List.take_succ_eq_append_getElem h, List.foldl_append]
 rfl
structure AL (w W : World) (L : List (Nat × List Value)) (ob : Nat) (v : Value) (T : TM) : Prop where
 mb : MB w W L
 ans : ∃ lo hi, TAns W v T lo hi ∧ w.heap.size + 1 + 1 ≤ lo ∧ (hi ≤ ob ∨ ob < lo) ∧ hi ≤ W.heap.size
 fit : NFit T
theorem AL.below {w W W' : World} {L : List (Nat × List Value)} {ob : Nat} {v : Value} {T : TM} (h : AL w W L ob v T) (hb : Below W.heap.size W W') : AL w W' L ob v T := by
 obtain ⟨lo, hi, h1, h2, h3, h4⟩ := h.ans
 exact ⟨h.mb.below hb, ⟨lo, hi, h1.below hb, h2, h3, Nat.le_trans h4 hb.size⟩, h.fit⟩
end Go.Proofs.YtakhagkhngmpaaaGreat
/- DrEdE: . -/
namespace Go.Proofs.YtakhagkhngmpaaaGreat
set_option maxRecDepth 100000
open Go.RowKit
attribute [local go_sem ↓] Go.wp_at_zero Go.wp_at_succ
structure ES (w wx : World) (g B : Nat) (a : Option Addr) (len cap E : Nat) (v : Value) (es : List EM) (k : Nat) : Prop where
 cur : Cur wx g B a len cap
 gr : w.grownBy wx (some g)
 own : wx.ownsRow w.heap.size 28 5 v k (ecs es)
 ln : es.length = k
 pl : ∀ e ∈ es, EPl e
 box : ∃ X, WCells wx E (ecells X) ∧ EPl X
 hE : w.heap.size ≤ E
 ne : v.ownBlock ≠ some E
 hg : g < w.heap.size
theorem ES.turn {w wx wy : World} {g B : Nat} {a : Option Addr} {len cap E : Nat} {v : Value} {es : List EM} {k : Nat} (h : ES w wx g B a len cap E v es k) (hc : Cur wy g B a len cap) (hg : wx.grownBy wy (some g)) : ES w wy g B a len cap E v es k := by
 obtain ⟨X, hX, hp⟩ := h.box
 refine ⟨hc, gb_two h.gr hg, h.own.kept hg ?_, h.ln, h.pl, ⟨X, hX.apart hg (by have := h.hE; have := h.hg; omega), hp⟩, h.hE, h.ne, h.hg⟩
 cases e : v.ownBlock with
 | none => exact .inl rfl
 | some q => exact .inr fun e2 => by cases e2; have := (h.own.lt _ e).1; have := h.hg; omega
theorem ES.set {w wx : World} {g B : Nat} {a : Option Addr} {len cap E : Nat} {v : Value} {es : List EM} {k : Nat} (h : ES w wx g B a len cap E v es k) (Z : EM) (hZ : EPl Z) : ES w (put5 wx E Z) g B a len cap E v es k := by
 obtain ⟨X, hX, hp⟩ := h.box
 have hEg : E ≠ g := by have := h.hE; have := h.hg; omega
 have hBE : B ≤ E := by have := h.hE; have := h.hg; have := h.cur.1; omega
 have hk : ∀ (W : World) (i : Nat) (x : Value), W.ownsRow w.heap.size 28 5 v k (ecs es) → (W.setCell ⟨E, i, none⟩ x).ownsRow w.heap.size 28 5 v k (ecs es) := fun W i x ho => ho.kept (gb_set' W E i x) (.inr h.ne)
 refine ⟨((((h.cur.other ⟨E, 0, none⟩ _ hEg hBE).other ⟨E, 1, none⟩ _ hEg hBE).other ⟨E, 2, none⟩ _ hEg hBE).other ⟨E, 3, none⟩ _ hEg hBE).other ⟨E, 4, none⟩ _ hEg hBE, gb_fresh (gb_fresh (gb_fresh (gb_fresh (gb_fresh h.gr ⟨E, 0, none⟩ _ h.hE) ⟨E, 1, none⟩ _ h.hE) ⟨E, 2, none⟩ _ h.hE) ⟨E, 3, none⟩ _ h.hE) ⟨E, 4, none⟩ _ h.hE, hk _ _ _ (hk _ _ _ (hk _ _ _ (hk _ _ _ (hk _ _ _ h.own)))), h.ln, h.pl, ⟨Z, ?_, hZ⟩, h.hE, h.ne, h.hg⟩
 exact ((((hX.set 0 (.int .i64 Z.kind) (by simp [ecells])).set 1 (.string Z.path) (by simp [ecells])).set 2 (.string Z.dest) (by simp [ecells])).set 3 (.int .i64 Z.num) (by simp [ecells])).set 4 (.int .i64 Z.who) (by simp [ecells])
theorem ES.below {w wx wy : World} {g B : Nat} {a : Option Addr} {len cap E : Nat} {v : Value} {es : List EM} {k : Nat} (h : ES w wx g B a len cap E v es k) (hb : Below wx.heap.size wx wy) : ES w wy g B a len cap E v es k := h.turn (h.cur.below hb) (gb_below hb)
theorem ES.room {w wx : World} {g B : Nat} {a : Option Addr} {len cap E : Nat} {v : Value} {es : List EM} {k : Nat} (h : ES w wx g B a len cap E v es k) : ∃ X : EM, (wx.cell? ⟨E, 0, none⟩ = some (.int .i64 X.kind) ∧ wx.frozen? ⟨E, 0, none⟩ = false) ∧ (wx.cell? ⟨E, 1, none⟩ = some (.string X.path) ∧ wx.frozen? ⟨E, 1, none⟩ = false) ∧ (wx.cell? ⟨E, 2, none⟩ = some (.string X.dest) ∧ wx.frozen? ⟨E, 2, none⟩ = false) ∧ (wx.cell? ⟨E, 3, none⟩ = some (.int .i64 X.num) ∧ wx.frozen? ⟨E, 3, none⟩ = false) ∧ (wx.cell? ⟨E, 4, none⟩ = some (.int .i64 X.who) ∧ wx.frozen? ⟨E, 4, none⟩ = false) ∧ EPl X := by
 obtain ⟨X, hX, hp⟩ := h.box
 exact ⟨X, hX.2 0 _ rfl, hX.2 1 _ rfl, hX.2 2 _ rfl, hX.2 3 _ rfl, hX.2 4 _ rfl, hp⟩
theorem ES.last {w wx : World} {g B : Nat} {a : Option Addr} {len cap E gv cv : Nat} {es : List EM} {k : Nat} {X : EM} (h : ES w wx g B a len cap E (.slice (some ⟨gv, 0, none⟩) k cv) es k) (h0 : 0 < k) (hX : es[k - 1]? = some X) : wx.cell? ⟨gv, (k - 1) * 5, none⟩ = some (.int .i64 X.kind) ∧ wx.cell? ⟨gv, (k - 1) * 5 + 1, none⟩ = some (.string X.path) ∧ (X.path.size ≤ 16 ∧ noZ X.path = true) := by
 have hl := h.ln
 have hk : k - 1 < es.length := by omega
 have hXe : es[k - 1] = X := by rw [List.getElem?_eq_getElem hk] at hX; exact Option.some.inj hX
 subst hXe
 have hw := own_wcells h.own
 have hg : ∀ f v, (ecells es[k - 1])[f]? = some v → wx.cell? ⟨gv, (k - 1) * 5 + f, none⟩ = some v := fun f v hv => by
  have hf : f < 5 := by have := (List.getElem?_eq_some_iff.1 hv).1; rw [ecells_len] at this; exact this
  exact (hw.2 _ _ ((flat_get ecells_len es (k - 1) hk f hf).trans hv)).1
 exact ⟨hg 0 _ rfl, hg 1 _ rfl, (h.pl _ (List.getElem_mem hk)).1⟩
theorem Cur.grow {w w' : World} {g B len cap : Nat} {a : Option Addr} (h : Cur w g B a len cap) {row : Option Nat} (hg : w.grownBy w' row) (hr : ∀ q, row = some q → q ≠ g ∧ B ≤ q) : Cur w' g B a len cap := by
 obtain ⟨h1, h2, h3, h4, ⟨i, h5, h5'⟩, ⟨k, h6⟩, h7⟩ := h
 have hb : w'.heap[g]? = w.heap[g]? := hg.block g h2 fun e => (hr g e.symm).1 rfl
 refine ⟨h1, Nat.lt_of_lt_of_le h2 hg.size, ⟨h3.1, fun hp' => ?_⟩, (World.cell?_of_block (a := ⟨g, 0, none⟩) hb).trans h4, ⟨i, (World.cell?_of_block (a := ⟨g, 1, none⟩) hb).trans h5, h5'⟩, ⟨k, (World.cell?_of_block (a := ⟨g, 2, none⟩) hb).trans h6⟩, fun j hj => (World.frozen?_of_block (a := ⟨g, j, none⟩) hb).trans (h7 j hj)⟩
 obtain ⟨b, off, e, hbB, hx⟩ := h3.2 hp'
 have hbb : w'.heap[b]? = w.heap[b]? := hg.block b (by omega) fun e => by have := (hr b e.symm).2; omega
 exact ⟨b, off, e, hbB, fun j hj => (hx j hj).imp fun x hx => ⟨(World.cell?_of_block (a := ⟨b, off + j, none⟩) hbb).trans hx.1, hx.2⟩⟩
theorem gb_more {w0 w w' : World} {g : Nat} {row : Option Nat} (h : w0.grownBy w (some g)) (k : w.grownBy w' row) (hr : ∀ q, row = some q → w0.heap.size ≤ q) : w0.grownBy w' (some g) :=
 ⟨k.os.trans h.os, k.tape.trans h.tape, k.output.trans h.output, Nat.le_trans h.size k.size, fun i hi hn => (k.block i (Nat.lt_of_lt_of_le hi h.size) (fun e => by have := hr i e.symm; omega)).trans (h.block i hi hn)⟩
theorem ES.more {w wx wa w10 : World} {g B : Nat} {a : Option Addr} {len cap E : Nat} {v v' : Value} {es : List EM} {k : Nat} {X : EM} (h : ES w wx g B a len cap E v es k) (hp : EPl X) (ha : Below wx.heap.size wx wa) (hg : wa.grownBy w10 v.ownBlock) (ho : w10.ownsRow w.heap.size 28 5 v' (k + 1) (ecs es ++ ecells X)) :
  (es ++ [X]).length = k + 1 ∧ (∀ x ∈ es ++ [X], EPl x) ∧ w10.ownsRow w.heap.size 28 5 v' (k + 1) (ecs (es ++ [X])) ∧ Cur w10 g B a len cap ∧ w.grownBy w10 (some g) := by
 have hlt : ∀ q, v.ownBlock = some q → w.heap.size ≤ q := fun q e => (h.own.lt q e).1
 refine ⟨by rw [List.length_append, h.ln]; rfl, ?_, ?_, (h.cur.below ha).grow hg fun q e => ?_, gb_more (gb_two h.gr (gb_below ha)) hg hlt⟩
 ·intro x hx
  rcases List.mem_append.1 hx with hx | hx
  ·exact h.pl x hx
  ·rw [List.mem_singleton.1 hx]; exact hp
 ·have e : ecs (es ++ [X]) = ecs es ++ ecells X := by simp [ecs]
  rw [e]; exact ho
 ·have := hlt q e; have := h.hg; have := h.cur.1
  exact ⟨by omega, by omega⟩
theorem own_rrow {w : World} {B n sz : Nat} {t : TypeId} {a : Option Addr} {cap : Nat} {L : List Value} (h : w.ownsRow B t sz (.slice a n cap) n L) (hn : 0 < L.length → n ≠ 0) : RRow w a L 0 w.heap.size := by
 intro hp
 obtain ⟨g, c, cur, e, _, hl, _⟩ := own_blk h (hn hp)
 simp only [Value.slice.injEq] at e
 obtain ⟨rfl, -, rfl⟩ := e
 exact RRow.of_crow (own_wcells h).crow hp
attribute [local irreducible] newX
end Go.Proofs.YtakhagkhngmpaaaGreat
/- TlA: . -/
namespace Go.Proofs.YtakhagkhngmpaaaGreat
set_option maxRecDepth 100000
open Go.RowKit
structure TL (w0 W : World) (L : List (Nat × List Value)) (S H : List (Value × TM × Nat × Nat)) : Prop where
 mb : MB w0 W L
 ans : ∀ s ∈ S, TAns W s.1 s.2.1 s.2.2.1 s.2.2.2 ∧ w0.heap.size ≤ s.2.2.1 ∧ s.2.2.2 ≤ W.heap.size
 far : ∀ s ∈ S, ∀ p ∈ L, p.1 < s.2.2.1 ∨ s.2.2.2 ≤ p.1
 apart : S.Pairwise fun s t => s.2.2.2 ≤ t.2.2.1 ∨ t.2.2.2 ≤ s.2.2.1
 held : ∀ s ∈ H, THeld W s.1 1 s.2.1 s.2.2.1 s.2.2.2 ∧ s.2.2.2 ≤ W.heap.size
 hfar : ∀ s ∈ H, ∀ p ∈ L, p.1 < s.2.2.1 ∨ s.2.2.2 ≤ p.1
 hap : ∀ s ∈ H, ∀ t ∈ S, s.2.2.2 ≤ t.2.2.1 ∨ t.2.2.2 ≤ s.2.2.1
section
variable {w0 W W' : World} {L : List (Nat × List Value)} {S H : List (Value × TM × Nat × Nat)}
theorem TL.below (h : TL w0 W L S H) (hb : Below W.heap.size W W') : TL w0 W' L S H :=
 ⟨h.mb.below hb, fun s hs => ⟨(h.ans s hs).1.below hb, (h.ans s hs).2.1, Nat.le_trans (h.ans s hs).2.2 hb.size⟩, h.far, h.apart, fun s hs => ⟨(h.held s hs).1.below hb, Nat.le_trans (h.held s hs).2 hb.size⟩, h.hfar, h.hap⟩
theorem TL.bel (h : TL w0 W L S H) : Below w0.heap.size w0 W := h.mb.bel
theorem TL.of (h : MB w0 W L) : TL w0 W L [] [] := ⟨h, fun _ h => (by cases h), fun _ h => (by cases h), .nil, fun _ h => (by cases h), fun _ h => (by cases h), fun _ h => (by cases h)⟩
theorem TL.new (h : TL w0 W L S H) (cs : Array Value) (t : TypeId) : TL w0 (W.alloc (.cells cs t)) ((W.heap.size, cs.toList) :: L) S H := by
 have hb : Below W.heap.size W (W.alloc (.cells cs t)) := (Below.refl _ _).alloc (Nat.le_refl _) _
 refine ⟨h.mb.new cs t, (h.below hb).ans, fun s hs p hp => ?_, h.apart, (h.below hb).held, fun s hs p hp => ?_, h.hap⟩
 ·rcases List.mem_cons.1 hp with rfl | hp
  ·exact .inr (h.ans s hs).2.2
  ·exact h.far s hs p hp
 ·rcases List.mem_cons.1 hp with rfl | hp
  ·exact .inr (h.held s hs).2
  ·exact h.hfar s hs p hp
theorem TL.call {v : Value} {T : TM} (h : TL w0 W L S H) (ha : TAns W' v T W.heap.size W'.heap.size) (hb : Below W.heap.size W W') : ∃ lo hi, TL w0 W' L ((v, T, lo, hi) :: S) H := by
 refine ⟨W.heap.size, W'.heap.size, h.mb.below hb, fun s hs => ?_, fun s hs p hp => ?_, List.pairwise_cons.2 ⟨fun t ht => .inr (h.ans t ht).2.2, h.apart⟩, (h.below hb).held, h.hfar, fun s hs t ht => ?_⟩
 ·rcases List.mem_cons.1 hs with rfl | hs
  ·exact ⟨ha, h.mb.bel.size, Nat.le_refl _⟩
  ·exact (h.below hb).ans s hs
 ·rcases List.mem_cons.1 hs with rfl | hs
  ·exact .inl (h.mb.box p hp).1.1
  ·exact h.far s hs p hp
 ·rcases List.mem_cons.1 ht with rfl | ht
  ·exact .inl (h.held s hs).2
  ·exact h.hap s hs t ht
theorem TL.at (h : TL w0 W L S H) (i : Nat) {v : Value} {T : TM} {lo hi : Nat} (hs : S[i]? = some (v, T, lo, hi)) : TAns W v T lo hi := (h.ans _ (List.mem_of_getElem? hs)).1
theorem TL.setBox (h : TL w0 W L S H) (i : Nat) {b : Nat} {X : List Value} (hi : L[i]? = some (b, X)) (j : Nat) (v : Value) (hj : j < X.length) : TL w0 (W.setCell ⟨b, j, none⟩ v) (L.set i (b, X.set j v)) S H := by
 have hm : (b, X) ∈ L := List.mem_of_getElem? hi
 have ht : Turned W (W.setCell ⟨b, j, none⟩ v) b (b + 1) := Turned.of_grown (gb_set' W b j v) (Nat.le_refl _) (by omega)
 refine ⟨h.mb.put i hi j v hj, fun s hs => ?_, fun s hs p hp => ?_, h.apart, fun s hs => ?_, fun s hs p hp => ?_, h.hap⟩
 ·obtain ⟨h1, h2, h3⟩ := h.ans s hs
  have hf := h.far s hs _ hm
  dsimp only at hf
  exact ⟨h1.turned ht (by omega), h2, by simpa using h3⟩
 ·rcases List.mem_or_eq_of_mem_set hp with q | q
  ·exact h.far s hs p q
  ·rw [q]
   have := h.far s hs _ hm
   exact this
 ·obtain ⟨h1, h3⟩ := h.held s hs
  have hf := h.hfar s hs _ hm
  dsimp only at hf
  exact ⟨h1.turned ht (by omega), by simpa using h3⟩
 ·rcases List.mem_or_eq_of_mem_set hp with q | q
  ·exact h.hfar s hs p q
  ·rw [q]
   have := h.hfar s hs _ hm
   exact this
end
end Go.Proofs.YtakhagkhngmpaaaGreat
/- TreJ: . -/
namespace Go.Proofs.YtakhagkhngmpaaaGreat
set_option maxRecDepth 100000
open Go.RowKit
attribute [local go_sem ↓] Go.wp_at_zero Go.wp_at_succ
def pathF (ns : List NM) : Nat → Int → List ByteArray → ByteArray
 | 0, _, _ => ⟨#[]⟩
 | f + 1, id, L => if id = 1 then joinB L else match ns.findIdx? (fun n => n.id == id) with
  | none => ⟨#[]⟩
  | some k => pathF ns f (ns.getD k default).parent ((ns.getD k default).name :: L)
theorem pathF_one {ns : List NM} {f : Nat} {c : Int} {L : List ByteArray} (h : c = 1) : pathF ns (f + 1) c L = joinB L := by
 conv => lhs; unfold pathF
 rw [if_pos h]
theorem pathF_none {ns : List NM} {f : Nat} {c : Int} {L : List ByteArray} (h0 : c ≠ 1) (h : ns.findIdx? (fun n => n.id == c) = none) : pathF ns (f + 1) c L = ⟨#[]⟩ := by
 conv => lhs; unfold pathF
 rw [if_neg h0, h]
theorem pathF_some {ns : List NM} {f i : Nat} {c : Int} {L : List ByteArray} (h0 : c ≠ 1) (h : ns.findIdx? (fun n => n.id == c) = some i) : pathF ns (f + 1) c L = pathF ns f (ns.getD i default).parent ((ns.getD i default).name :: L) := by
 conv => lhs; unfold pathF
 rw [if_neg h0, h]
def pathX (T : TM) (id : Int) : ByteArray := if treeOk T = true then pathF T.nodes 15 id [] else ⟨#[]⟩
theorem treeOk_first {T : TM} (h : treeOk T = true) : 0 < T.nodes.length ∧ (T.nodes.getD 0 default).id = 1 ∧ atI T.nodes 1 = 0 := by
 have h0 : 0 < T.nodes.length := by
  unfold treeOk at h
  simp only [Bool.and_eq_true, decide_eq_true_eq] at h
  omega
 have h1 := treeOk_node h h0
 unfold nodeOk at h1
 simp only [Bool.and_eq_true] at h1
 have h2 := h1.1.1.2
 rw [if_pos trivial] at h2
 unfold firstOk at h2
 simp only [Bool.and_eq_true] at h2
 have h3 : (T.nodes.getD 0 default).id = 1 := by simpa using h2.1.1.1.1
 refine ⟨h0, h3, ?_⟩
 exact atI_some (i := 0) h0 (by rw [← h3]; simp [List.getD, h0]) (fun j hj => by omega)
theorem treeOk_name {T : TM} (h : treeOk T = true) {i : Nat} (hi : i < T.nodes.length) (h1 : (T.nodes.getD i default).id ≠ 1) : nameB (T.nodes.getD i default).name = true := by
 have hn := treeOk_node h hi
 have h0 : i ≠ 0 := fun e => by rw [e] at h1; exact h1 (treeOk_first h).2.1
 unfold nodeOk at hn
 rw [decide_eq_false h0] at hn
 simp only [Bool.and_eq_true, Bool.false_or] at hn
 exact hn.2.1.1.1.1
theorem names_fit' {L : List ByteArray} (h : ∀ s ∈ L, nameB s = true) (h4 : L.length ≤ 15) : TFit L := by
 have hs : ∀ s ∈ L, s.size ≤ 8 := fun s hs => ((nameB_iff s).1 (h s hs)).2.2
 have : tsum L ≤ L.length * 8 := by
  clear h h4
  induction L with
  | nil => simp [tsum]
  | cons x L ih =>
   simp only [tsum, List.length_cons, Nat.add_mul, Nat.one_mul]
   have h1 := hs x (by simp)
   have h2 := ih (fun s h => hs s (by simp [h]))
   omega
 unfold TFit
 omega
theorem own_all9 {w : World} {g cap B n : Nat} {L : List ByteArray} (h : w.ownsRow B 9 1 (.slice (some ⟨g, 0, none⟩) n cap) n (tv L)) (hn : n = L.length) : SSee w (.slice (some ⟨g, 0, none⟩) n cap) L 0 w.heap.size := by
 have := own_part9 h (k := n) (by omega)
 rw [List.take_of_length_le (by omega)] at this
 exact this
theorem own_one9 (w : World) (v : Value) (e : TypeId) {base : Nat} (hb : base ≤ w.heap.size) : (w.alloc (.cells #[v] e)).ownsRow base e 1 (.slice (some ⟨w.heap.size, 0, none⟩) 1 1) 1 [v] := ⟨by simp, .inr ⟨w.heap.size, 1, #[v], rfl, hb, heap_alloc_new w _, Nat.le_refl _, by decide, rfl, by simp⟩⟩
def NSo (w W : World) (a : Option Addr) (n cap : Nat) (nx : Int) (g c l : Nat) (L : List ByteArray) : Prop := BX w W a n cap nx ∧ W.ownsRow (w.heap.size + 1) 9 1 (.slice (some ⟨g, 0, none⟩) l c) l (tv L)
theorem NSo.below {w W W' : World} {a : Option Addr} {n cap g c l : Nat} {nx : Int} {L : List ByteArray} (h : NSo w W a n cap nx g c l L) (hb : Below W.heap.size W W') : NSo w W' a n cap nx g c l L := ⟨h.1.below hb, h.2.kept (row := none) ⟨hb.os, hb.tape, hb.output, hb.size, fun k hk _ => hb.block k hk⟩ (Classical.em _)⟩
attribute [local irreducible] nodeOk treeOk atI joinB nameB
set_option maxHeartbeats 4000000 in
theorem specPathOf {w : World} {v : Value} {T : TM} {lo hi : Nat} (id : Int) (h : TSee w v T lo hi) (hf : NFit T) : Calls Tryz.prog 32 #[v, .int .i64 id] w fun e w' => e = .returned (.string (pathX T id)) ∧ Below w.heap.size w w' := by
 have hl : T.nodes.length ≤ 1048576 := by unfold NFit at hf; omega
 have h' := h
 obtain ⟨a, cap, rs, rfl, hr, hm⟩ := h
 obtain ⟨n, hn⟩ : ∃ n, n = rs.length := ⟨_, rfl⟩
 rw [← hn] at h' ⊢
 have HTS := Shut.mk (fun W (hW : Below w.heap.size w W) (c : Int) => specAt c (h'.below hW) hl)
 have HTO := Shut.mk (fun W (hW : Below w.heap.size w W) => specTreeOk (h'.below hW) hf)
 obtain ⟨R, hR⟩ : ∃ R, R = pathX T id := ⟨_, rfl⟩
 rw [← hR]
 unfold pathX at hR
 obtain ⟨nodes, nx⟩ := T
 dsimp only at hr HTS HTO hR
 subst hr
 have HM := Shut.mk (And.intro hm hn)
 have hn9 : n ≤ 1048576 := by dsimp only at hl; rw [nds_len] at hl; omega
 have HR := Shut.mk hR
 clear hm hf hR hn h' hl
 cases hok : treeOk ⟨nds rs, nx⟩ with
 | false =>
  have HE : Shut (R = ⟨#[]⟩) := ⟨by rw [HR.out, if_neg (by rw [hok]; decide)]⟩
  rw [hok] at HTO
  clear hok
  go_enter Tryz.func32, Tryz.ntmps32
  go_upto_region 1 with fail
  refine wp_shade (fun W => BX w W a n cap nx) (BX.new w a n cap nx 26) ?_
  intro W hg
  have HG := Shut.mk hg
  have x0 := (hg.box.2 0 _ rfl).1
  have x1 := (hg.box.2 1 _ rfl).1
  clear hg
  go_wp2_with fail
  refine (HTO.out _ HG.out.bel).mono ?_
  rintro e W1 ⟨rfl, hb1⟩
  have HG1 := Shut.mk (HG.out.below hb1)
  clear hb1
  go_wp2_with fail
  go_ret
  exact ⟨by rw [HE.out]; rfl, HG1.out.bel⟩
 | true =>
  have HRR : Shut (R = pathF (nds rs) 15 id []) := ⟨by rw [HR.out, if_pos hok]⟩
  have HOK := Shut.mk hok
  have HFI := Shut.mk (treeOk_first hok).2.2
  rw [hok] at HTO
  obtain ⟨t0, ht0, hty0, hty1, hty2⟩ := info_parts infoTextG
  clear hok HR
  go_enter Tryz.func32, Tryz.ntmps32
  go_upto_region 1 with fail
  refine wp_shade (fun W => BX w W a n cap nx) (BX.new w a n cap nx 26) ?_
  intro W hg
  have HG := Shut.mk hg
  have x0 := (hg.box.2 0 _ rfl).1
  have x1 := (hg.box.2 1 _ rfl).1
  clear hg
  go_wp2_with fail
  refine (HTO.out _ HG.out.bel).mono ?_
  rintro e W1 ⟨rfl, hb1⟩
  have HG1 := Shut.mk (HG.out.below hb1)
  clear hb1 x0 x1 HG
  go_upto_region 4 with fail
  refine wp_shade (fun W => NSo w W a n cap nx W1.heap.size 0 0 []) ⟨HG1.out.below ((Below.refl _ _).alloc (Nat.le_refl _) _), World.ownsRow_made W1 #[] 0 (by have := HG1.out.box.1; omega) (by decide) rfl⟩ ?_
  intro W2 hg2
  have HG2 := Shut.mk hg2
  clear hg2 HG1
  go_wp2_with fail
  go_loopw [1, 5, 6] (fun cv lv sv wr => ∃ (s : Nat) (c : Int) (g cp l : Nat) (L : List ByteArray), cv = .int .i64 c ∧ lv = .slice (some ⟨g, 0, none⟩) l cp ∧ sv = .int .i64 s ∧ s ≤ 15 ∧ l ≤ s ∧ Shut (l = L.length) ∧ Shut (∀ x ∈ L, nameB x = true) ∧ Shut (R = pathF (nds rs) (15 - s) c L) ∧ Shut (NSo w wr a n cap nx g cp l L)) (fun _ _ sv _ => 15 - (intOf sv).toNat)
  case atStart => exact ⟨0, id, _, 0, 0, [], rfl, rfl, rfl, by omega, by omega, ⟨rfl⟩, ⟨by simp⟩, ⟨HRR.out⟩, HG2⟩
  case round =>
   clear HG2 HRR
   obtain ⟨s, c, g, cp, l, L, rfl, rfl, rfl, hs15, hls, HLL, HNM, HC, HG⟩ := hrel
   by_cases hlt : s < 15
   ·have m1 : (s : Int) ≤ 14 := by omega
    obtain ⟨f, hf⟩ : ∃ f, f = 15 - (s + 1) := ⟨_, rfl⟩
    have hcl' := HC.out
    rw [show 15 - s = f + 1 by omega] at hcl'
    have x0 := (HG.out.1.box.2 0 _ rfl).1
    have x1 := (HG.out.1.box.2 1 _ rfl).1
    by_cases hc1 : c = 1
    ·have hc1' : (c == 1) = true := by simpa using hc1
     have HE : Shut (R = joinB L) := ⟨by rw [hcl', pathF_one hc1]⟩
     have HAT := Shut.mk (HTS.out wr HG.out.1.bel 1)
     rw [HFI.out] at HAT
     clear hcl' hf hc1 HC
     go_wp2_with fail
     refine HAT.out.mono ?_
     rintro e W6 ⟨rfl, hb6⟩
     have HG6 := Shut.mk (HG.out.below hb6)
     have HJ := Shut.mk (specJoinPath (own_all9 HG6.out.2 HLL.out) (names_fit' HNM.out (by have := HLL.out; omega)))
     clear hb6 x0 x1 HAT HG
     go_wp2_with fail
     refine HJ.out.mono ?_
     rintro e W7 ⟨rfl, hb7⟩
     have HG7 := Shut.mk (HG6.out.1.below hb7)
     clear hb7
     go_wp2_with fail
     go_ret
     exact ⟨by rw [HE.out]; rfl, HG7.out.bel⟩
    ·have hc1' : (c == 1) = false := by simpa using hc1
     have HAT := Shut.mk (HTS.out wr HG.out.1.bel c)
     rcases at_cases (nds rs) c with ⟨hat, hfn⟩ | ⟨i, hi, hat, hfn⟩
     ·have HE : Shut (R = ⟨#[]⟩) := ⟨by rw [hcl', pathF_none hc1 hfn]⟩
      rw [hat] at HAT
      clear hcl' hf hc1 HC hat hfn
      go_wp2_with fail
      refine HAT.out.mono ?_
      rintro e W6 ⟨rfl, hb6⟩
      have HG6 := Shut.mk (HG.out.1.below hb6)
      clear hb6
      go_wp2_with fail
      go_ret
      exact ⟨by rw [HE.out]; rfl, HG6.out.bel⟩
     ·have hir : i < rs.length := by rw [nds_len] at hi; exact hi
      have hidc : (((nds rs).getD i default).id == c) = true := by
       obtain ⟨h1, h2, _⟩ := List.findIdx?_eq_some_iff_getElem.1 hfn
       have : (nds rs).getD i default = (nds rs)[i] := by simp [List.getD, h1]
       rw [this]; exact h2
      have hnb : nameB rs[i].nd.name = true := by
       have := treeOk_name HOK.out (i := i) hi (by dsimp only; rw [beq_iff_eq.1 hidc]; exact hc1)
       dsimp only at this
       rw [nds_getD hir] at this
       exact this
      have HNX : Shut (R = pathF (nds rs) (15 - (s + 1)) rs[i].nd.parent (rs[i].nd.name :: L)) := ⟨by rw [hcl', pathF_some hc1 hfn, nds_getD hir, ← hf]⟩
      have HNB := Shut.mk hnb
      rw [hat] at HAT
      have i0 : (0 : Int) ≤ (i : Int) := by omega
      have i1 : (i : Int) < (n : Int) := by have := HM.out.2; omega
      have i2 : ¬ (i : Int) < 0 := by omega
      clear hcl' hf hc1 HC hat hfn hidc hnb hi
      go_wp2_with fail
      refine HAT.out.mono ?_
      rintro e W6 ⟨rfl, hb6⟩
      have HG6 := Shut.mk (HG.out.below hb6)
      clear hb6 x0 x1 HAT HG
      have x0 := (HG6.out.1.box.2 0 _ rfl).1
      obtain ⟨b, off, rfl, lb, hc⟩ := TR.nat (HM.out.1.below HG6.out.1.bel) (by omega)
      have HCC := Shut.mk (hc i hir)
      have e2 := (hc i hir).2.2.1
      clear hc
      generalize rs[i] = r at *
      have hs6 : w.heap.size + 1 ≤ W6.heap.size := by have := HG6.out.1.box.1; omega
      have ho6 := HG6.out.2
      go_wp2_with (at_builtin; refine wpList_append_own _ rfl _ _ 76 rfl (w.heap.size + 1) 9 t0 (.string ⟨#[]⟩) 1 16 Tryz.underlying76 ht0 hty0 hty1 hty2 rfl (by decide) _ 1 [.string r.nd.name] rfl (own_one9 W6 (.string r.nd.name) _ hs6) ⟨g, 0, none⟩ l cp (tv L) rfl ?c0 ?c1 ?c2 ?c3 ?c4 ?c5 ?_)
      case c0 => rw [tv_len, Nat.mul_one]; exact HLL.out.symm
      case c1 =>
       intro j u hu
       rw [show (Addr.add ⟨g, 0, none⟩ j) = ⟨g, j, none⟩ by unfold Addr.add; split <;> simp [*]]
       exact ((own_wcells (ho6.alloc _)).2 j u hu).1
      case c2 => intro u hu; obtain ⟨y, _, rfl⟩ := List.mem_map.1 hu; rfl
      case c3 => unfold maxLen; omega
      case c4 => omega
      case c5 => first | omega | (simp; omega)
      intro v' w10 ho10 hgrow _
      obtain ⟨g', cp', rfl, _⟩ := own_some9 ho10 (by omega)
      have hb10 : Below W6.heap.size W6 w10 := ((Below.refl _ _).alloc (Nat.le_refl _) _).grown hgrow ((Below.refl W6.heap.size W6).alloc (Nat.le_refl _) _).size (fun j hj => ((own_one9 W6 (.string r.nd.name) 9 (Nat.le_refl _)).lt j hj).1)
      have HGZ : Shut (NSo w w10 (some ⟨b, off, none⟩) n cap nx g' cp' (l + 1) (r.nd.name :: L)) := ⟨HG6.out.1.below hb10, by rw [Nat.add_comm l 1]; exact ho10⟩
      rw [Nat.add_comm 1 l]
      have HNM' : Shut (∀ x ∈ r.nd.name :: L, nameB x = true) := ⟨fun x hx => by
       rcases List.mem_cons.1 hx with rfl | h
       ·exact HNB.out
       ·exact HNM.out x h⟩
      have z0 := (HGZ.out.1.box.2 0 _ rfl).1
      have e1 := (HCC.out.below hb10 lb).2.1
      clear hgrow ho10 ho6 hb10 x0 e2
      go_wp2_with fail
      go_roundw
      case rel => exact ⟨s + 1, r.nd.parent, g', cp', l + 1, r.nd.name :: L, rfl, rfl, by go_num, by omega, by omega, ⟨by rw [List.length_cons, ← HLL.out]⟩, HNM', HNX, HGZ⟩
      case measure => simp [intOf]; omega
   ·have hm : s = 15 := by omega
    have HE : Shut (R = ⟨#[]⟩) := ⟨by rw [HC.out, hm]; rfl⟩
    have m1 : ¬ (s : Int) ≤ 14 := by omega
    clear hm HC
    go_wp2_with fail
    go_ret
    exact ⟨by rw [HE.out]; rfl, HG.out.1.bel⟩
end Go.Proofs.YtakhagkhngmpaaaGreat
/- ApR: . -/
namespace Go.Proofs.YtakhagkhngmpaaaGreat
set_option maxRecDepth 100000
theorem set_get {α : Type} (ns : List NM) (k i : Nat) (x : NM) (f : NM → α) (h : f x = f (ns.getD k default)) : f ((ns.set k x).getD i default) = f (ns.getD i default) := by
 by_cases e : i = k
 ·subst e
  by_cases hi : i < ns.length
  ·have : (ns.set i x).getD i default = x := by simp [List.getD_eq_getElem?_getD, hi]
   rw [this, h]
  ·rw [List.set_eq_of_length_le (by omega)]
 ·have : (ns.set k x)[i]? = ns[i]? := by rw [List.getElem?_set]; simp [Ne.symm e]
  rw [List.getD_eq_getElem?_getD, List.getD_eq_getElem?_getD, this]
theorem set_find (ns : List NM) (k : Nat) (x : NM) (h : x.id = (ns.getD k default).id) (id : Int) : (ns.set k x).findIdx? (fun n => n.id == id) = ns.findIdx? (fun n => n.id == id) := by
 have hm : (ns.set k x).map NM.id = ns.map NM.id := by
  apply List.ext_getElem?
  intro i
  rw [List.getElem?_map, List.getElem?_map, List.getElem?_set]
  split
  ·rename_i e
   subst e
   by_cases hk : k < ns.length
   ·simp [hk, h, List.getD_eq_getElem?_getD]
   ·simp [hk]
  ·rfl
 have e1 : ∀ l : List NM, l.findIdx? (fun n => n.id == id) = (l.map NM.id).findIdx? (· == id) := fun l => by rw [List.findIdx?_map]; rfl
 rw [e1, e1, hm]
theorem set_at (ns : List NM) (k : Nat) (x : NM) (h : x.id = (ns.getD k default).id) (id : Int) : atI (ns.set k x) id = atI ns id := by
 unfold atI
 rw [set_find ns k x h id]
theorem set_climbs (ns : List NM) (k : Nat) (x : NM) (h : x.id = (ns.getD k default).id) (hp : x.parent = (ns.getD k default).parent) (f : Nat) (id : Int) : climbs (ns.set k x) f id = climbs ns f id := by
 induction f generalizing id with
 | zero => rfl
 | succ f ih =>
  unfold climbs
  rw [set_find ns k x h id]
  cases ns.findIdx? (fun n => n.id == id) with
  | none => rfl
  | some j =>
   dsimp only
   rw [set_get ns k j x NM.parent hp, ih]
theorem setN_ok {T : TM} {k : Nat} {x : NM} (h : treeOk T = true) (h1 : x.id = (ndAt T k).id) (h2 : x.parent = (ndAt T k).parent) (h3 : x.name = (ndAt T k).name) (h4 : x.dir = (ndAt T k).dir)
  (h5 : (if x.dir then dirOk x else fileOk x) = true) (h6 : k = 0 → x.schema ≠ 0) : treeOk (setN T k x) = true := by
 unfold ndAt at h1 h2 h3 h4
 unfold treeOk at h ⊢
 simp only [Bool.and_eq_true, decide_eq_true_eq, List.all_eq_true, List.mem_range] at h ⊢
 obtain ⟨⟨⟨a1, a2⟩, a3⟩, a4⟩ := h
 have hl : (setN T k x).nodes.length = T.nodes.length := by simp [setN]
 rw [hl]
 refine ⟨⟨⟨a1, a2⟩, a3⟩, fun i hi => ?_⟩
 have hn := a4 i hi
 unfold nodeOk at hn ⊢
 show (decide (((T.nodes.set k x).getD i default).id < T.next) && (if i = 0 then firstOk ((T.nodes.set k x).getD i default) else decide (((T.nodes.set k x).getD (i - 1) default).id < ((T.nodes.set k x).getD i default).id)) &&
  (if ((T.nodes.set k x).getD i default).dir then dirOk ((T.nodes.set k x).getD i default) else fileOk ((T.nodes.set k x).getD i default)) &&
  (decide (i = 0) || (nameB ((T.nodes.set k x).getD i default).name && decide (0 ≤ atI (T.nodes.set k x) ((T.nodes.set k x).getD i default).parent) && ((T.nodes.set k x).getD (atI (T.nodes.set k x) ((T.nodes.set k x).getD i default).parent).toNat default).dir &&
   (List.range i).all (fun j => ! ((((T.nodes.set k x).getD j default).parent == ((T.nodes.set k x).getD i default).parent) && decide (((T.nodes.set k x).getD j default).name = ((T.nodes.set k x).getD i default).name))) && climbs (T.nodes.set k x) 4 ((T.nodes.set k x).getD i default).id))) = true
 have g1 : ∀ j, ((T.nodes.set k x).getD j default).id = (T.nodes.getD j default).id := fun j => set_get T.nodes k j x NM.id h1
 have g2 : ∀ j, ((T.nodes.set k x).getD j default).parent = (T.nodes.getD j default).parent := fun j => set_get T.nodes k j x NM.parent h2
 have g3 : ∀ j, ((T.nodes.set k x).getD j default).name = (T.nodes.getD j default).name := fun j => set_get T.nodes k j x NM.name h3
 have g4 : ∀ j, ((T.nodes.set k x).getD j default).dir = (T.nodes.getD j default).dir := fun j => set_get T.nodes k j x NM.dir h4
 simp only [g1, g2, g3, g4, set_at T.nodes k x h1, set_climbs T.nodes k x h1 h2]
 by_cases e : i = k
 ·have hx : (T.nodes.set k x).getD i default = x := by rw [e]; simp [List.getD_eq_getElem?_getD, e ▸ hi]
  rw [hx]
  simp only [Bool.and_eq_true] at hn ⊢
  obtain ⟨⟨⟨b1, b2⟩, b3⟩, b4⟩ := hn
  refine ⟨⟨⟨b1, ?_⟩, ?_⟩, b4⟩
  ·by_cases e0 : i = 0
   ·rw [if_pos e0] at b2 ⊢
    unfold firstOk at b2 ⊢
    simp only [Bool.and_eq_true] at b2 ⊢
    rw [e] at b2
    rw [h1, h2, h3, h4]
    exact ⟨b2.1, by simpa using h6 (e ▸ e0)⟩
   ·rw [if_neg e0] at b2 ⊢
    exact b2
  ·rw [e, ← h4]
   exact h5
 ·have hx : (T.nodes.set k x).getD i default = T.nodes.getD i default := by
   rw [List.getD_eq_getElem?_getD, List.getD_eq_getElem?_getD, List.getElem?_set]
   simp [Ne.symm e]
  rw [hx]
  exact hn
theorem ok_at {T : TM} {k : Nat} (h : treeOk T = true) (hk : k < T.nodes.length) : (if (ndAt T k).dir then dirOk (ndAt T k) else fileOk (ndAt T k)) = true ∧ (k = 0 → firstOk (ndAt T k) = true) := by
 unfold treeOk at h
 simp only [Bool.and_eq_true, decide_eq_true_eq, List.all_eq_true, List.mem_range] at h
 have hn := h.2 k hk
 unfold nodeOk at hn
 simp only [Bool.and_eq_true] at hn
 refine ⟨hn.1.2, fun e => ?_⟩
 have := hn.1.1.2
 rw [if_pos e] at this
 exact this
theorem setX_ok {T : TM} {e : EM} {k : Nat} (h : treeOk T = true) (hk : k < T.nodes.length) (he : (e.kind = 5 ∧ 1 ≤ e.num ∧ e.num ≤ 3) ∨ (e.kind = 6 ∧ 0 ≤ e.num ∧ e.num ≤ 1000)) : treeOk (setX T e k).1 = true := by
 obtain ⟨o1, o2⟩ := ok_at h hk
 unfold setX
 split
 ·exact h
 rename_i hd
 have hd' : (ndAt T k).dir = true := by simpa using hd
 rw [if_pos hd'] at o1
 unfold dirOk at o1
 simp only [Bool.and_eq_true, inI_iff] at o1
 obtain ⟨⟨⟨⟨b1, b2⟩, b3⟩, b4⟩, b5⟩ := o1
 split
 ·rename_i e5
  have hn : 1 ≤ e.num ∧ e.num ≤ 3 := by rcases he with ⟨_, q⟩ | ⟨q, _⟩ <;> omega
  refine setN_ok h rfl rfl rfl rfl ?_ (fun _ => by show e.num ≠ 0; omega)
  rw [if_pos hd']
  unfold dirOk
  simp only [Bool.and_eq_true, inI_iff]
  exact ⟨⟨⟨⟨⟨by omega, by omega⟩, b2⟩, b3⟩, b4⟩, b5⟩
 rename_i e5
 split
 ·exact h
 ·have hn : 0 ≤ e.num ∧ e.num ≤ 1000 := by rcases he with ⟨q, _⟩ | ⟨_, q⟩ <;> omega
  refine setN_ok h rfl rfl rfl rfl ?_ (fun e0 => ?_)
  ·rw [if_pos hd']
   unfold dirOk
   simp only [Bool.and_eq_true, inI_iff]
   exact ⟨⟨⟨⟨b1, hn⟩, b3⟩, b4⟩, b5⟩
  ·have := o2 e0
   unfold firstOk at this
   simp only [Bool.and_eq_true] at this
   simpa using this.2
theorem newP_sum (g : Int) (ls : List Int) : sumP (newP g ls) = ls.sum := by
 induction ls generalizing g with
 | nil => rfl
 | cons l ls ih => simp [newP, sumP, ih]
theorem newP_ok {s g : Int} {ls : List Int} (hl : ∀ l ∈ ls, 1 ≤ l ∧ l ≤ (groupN s : Nat)) (h1 : 1 ≤ g) (h2 : g + ls.length ≤ 100001) : ∀ p ∈ newP g ls, pieceOk s p = true := by
 induction ls generalizing g with
 | nil => simp [newP]
 | cons l ls ih =>
  intro p hp
  simp only [List.length_cons] at h2
  push_cast at h2
  rcases List.mem_cons.1 hp with rfl | hp
  ·unfold pieceOk
   rw [Bool.and_eq_true, inI_iff, inI_iff]
   exact ⟨⟨h1, by dsimp only; omega⟩, hl l (by simp)⟩
  ·exact ih (fun l' h' => hl l' (by simp [h'])) (by omega) (by omega) p hp
theorem spanL_sum {S n : Nat} (hS : 0 < S) (h1 : 1 ≤ n) : (spanL S n).sum = (n : Int) ∧ ∀ l ∈ spanL S n, 1 ≤ l ∧ l ≤ (S : Int) := by
 have hq : (n - 1) / S * S ≤ n - 1 := Nat.div_mul_le_self _ _
 have hr : n - 1 < (n - 1) / S * S + S := by have := Nat.div_add_mod (n - 1) S; have := Nat.mod_lt (n - 1) hS; have := Nat.mul_comm S ((n - 1) / S); omega
 constructor
 ·unfold spanL
  rw [List.sum_append, List.sum_replicate_int]
  simp only [List.sum_cons, List.sum_nil]
  have : (((n - 1) / S : Nat) : Int) * (S : Int) = (((n - 1) / S * S : Nat) : Int) := by push_cast; rfl
  omega
 ·intro l hl
  unfold spanL at hl
  rcases List.mem_append.1 hl with hl | hl
  ·rw [List.eq_of_mem_replicate hl]; omega
  ·rw [List.mem_singleton.1 hl]; omega
theorem writeX_ok {T : TM} {e : EM} {k : Nat} {g : Int} (h : treeOk T = true) (hk : k < T.nodes.length) (h7 : e.kind ≠ 9 → e.kind ≠ 8 → 1 ≤ e.num ∧ e.num ≤ 200) (h9 : e.kind = 9 → 0 ≤ e.who ∧ e.who ≤ 9) (g1 : 1 ≤ g) (g2 : g ≤ 99000) : treeOk (writeX T e k g).1 = true := by
 obtain ⟨o1, -⟩ := ok_at h hk
 unfold writeX
 split
 ·exact h
 rename_i hd
 rw [if_neg hd] at o1
 unfold fileOk at o1
 simp only [Bool.and_eq_true, inI_iff, decide_eq_true_eq, List.all_eq_true, beq_iff_eq] at o1
 obtain ⟨⟨⟨⟨⟨⟨b1, b2⟩, b3⟩, b4⟩, b5⟩, b6⟩, b7⟩ := o1
 split
 ·exact h
 split
 ·rename_i e9
  refine setN_ok h rfl rfl rfl rfl ?_ (fun _ => by show (ndAt T k).schema ≠ 0; omega)
  rw [if_neg hd]
  unfold fileOk
  simp only [Bool.and_eq_true, inI_iff, decide_eq_true_eq, List.all_eq_true, beq_iff_eq]
  exact ⟨⟨⟨⟨⟨⟨b1, b2⟩, b3⟩, h9 e9⟩, b5⟩, b6⟩, b7⟩
 rename_i e9
 split
 ·refine setN_ok h rfl rfl rfl rfl ?_ (fun _ => by show (ndAt T k).schema ≠ 0; omega)
  rw [if_neg hd]
  unfold fileOk
  simp only [Bool.and_eq_true, inI_iff, decide_eq_true_eq, List.all_eq_true, beq_iff_eq]
  exact ⟨⟨⟨⟨⟨⟨b1, b2⟩, b3⟩, by omega⟩, b5⟩, b6⟩, b7⟩
 rename_i e8
 split
 ·exact h
 rename_i hr
 split
 ·exact h
 rename_i h40
 have hn := h7 e9 e8
 have hs : schOk (ndAt T k).schema = true := by
  unfold schOk
  simp only [Bool.or_eq_true, decide_eq_true_eq]
  omega
 have hsp : spansX (ndAt T k).schema e.num = spanL (groupN (ndAt T k).schema) e.num.toNat := if_pos ⟨hs, by omega, by omega⟩
 have hS := group_pos hs
 obtain ⟨c1, c2⟩ := spanL_sum (S := groupN (ndAt T k).schema) (n := e.num.toNat) (by omega) (by omega)
 rw [← hsp] at c1 c2
 refine setN_ok h rfl rfl rfl rfl ?_ (fun _ => by show (ndAt T k).schema ≠ 0; omega)
 rw [if_neg hd]
 unfold fileOk
 simp only [Bool.and_eq_true, inI_iff, decide_eq_true_eq, List.all_eq_true, beq_iff_eq]
 have hsum : sumP ((ndAt T k).pieces ++ newP g (spansX (ndAt T k).schema e.num)) = (ndAt T k).len + e.num := by
  rw [sumP_append, newP_sum, c1, b6]
  omega
 refine ⟨⟨⟨⟨⟨⟨b1, b2⟩, ?_⟩, b4⟩, ?_⟩, hsum⟩, ?_⟩
 ·rw [List.length_append, newP_len]; omega
 ·intro p hp
  rcases List.mem_append.1 hp with hp | hp
  ·exact b5 p hp
  ·exact newP_ok c2 g1 (by omega) p hp
 ·rw [hsum]; omega
theorem getD_iz {ns : List NM} {i : Nat} (hi : i < ns.length) : ns.getD i default = ns[i] := by simp [List.getD_eq_getElem?_getD, hi]
abbrev Up2 (ns : List NM) : Prop := ns.Pairwise (fun a b => a.id < b.id)
theorem Up2.one {ns : List NM} (h : Up2 ns) {a b : NM} (ha : a ∈ ns) (hb : b ∈ ns) (e : a.id = b.id) : a = b := by
 obtain ⟨i, hi, rfl⟩ := List.getElem_of_mem ha
 obtain ⟨j, hj, rfl⟩ := List.getElem_of_mem hb
 have hp := List.pairwise_iff_getElem.1 h
 rcases Nat.lt_trichotomy i j with q | q | q
 ·have := hp i j hi hj q; omega
 ·subst q; rfl
 ·have := hp j i hj hi q; omega
theorem Up2.find {ns : List NM} (h : Up2 ns) {p : NM} (hp : p ∈ ns) : ∃ k, ns.findIdx? (fun n => n.id == p.id) = some k ∧ ns.getD k default = p := by
 cases e : ns.findIdx? (fun n => n.id == p.id) with
 | none =>
  have := List.findIdx?_eq_none_iff.1 e p hp
  simp at this
 | some k =>
  obtain ⟨hk, h1, _⟩ := List.findIdx?_eq_some_iff_getElem.1 e
  refine ⟨k, rfl, ?_⟩
  rw [getD_iz hk]
  exact h.one (List.getElem_mem hk) hp (by simpa using h1)
theorem Up2.at {ns : List NM} (h : Up2 ns) {p : NM} (hp : p ∈ ns) : 0 ≤ atI ns p.id ∧ ns.getD (atI ns p.id).toNat default = p := by
 obtain ⟨k, e1, e2⟩ := h.find hp
 unfold atI
 rw [e1]
 exact ⟨by simp, by simpa using e2⟩
theorem Up2.climbs {ns : List NM} (h : Up2 ns) {p : NM} (hp : p ∈ ns) (f : Nat) : climbs ns (f + 1) p.id = if p.parent = 1 then true else climbs ns f p.parent := by
 obtain ⟨k, e1, e2⟩ := h.find hp
 conv => lhs; unfold Go.Proofs.YtakhagkhngmpaaaGreat.climbs
 rw [e1]
 dsimp only
 rw [e2]
theorem Up2.below {ns : List NM} (h : Up2 ns) {p : NM} (hp : p ∈ ns) (f : Nat) (top : Int) : belowF ns (f + 1) p.id top = if p.id = top then true else belowF ns f p.parent top := by
 obtain ⟨k, e1, e2⟩ := h.find hp
 conv => lhs; unfold belowF
 rw [e1]
 dsimp only
 rw [e2]
theorem climbs_mem {ns : List NM} {f : Nat} {c : Int} (h : climbs ns f c = true) : ∃ p ∈ ns, p.id = c := by
 cases f with
 | zero => simp [climbs] at h
 | succ f =>
  unfold climbs at h
  cases e : ns.findIdx? (fun n => n.id == c) with
  | none => rw [e] at h; simp at h
  | some k =>
   obtain ⟨hk, h1, _⟩ := List.findIdx?_eq_some_iff_getElem.1 e
   exact ⟨ns[k], List.getElem_mem hk, by simpa using h1⟩
structure TP (T : TM) : Prop where
 len : T.nodes.length ≤ 14
 nx : T.next ≤ 100000
 up : Up2 T.nodes
 lt : ∀ n ∈ T.nodes, n.id < T.next
 first : ∃ r rest, T.nodes = r :: rest ∧ firstOk r = true
 kind : ∀ n ∈ T.nodes, (if n.dir then dirOk n else fileOk n) = true
 rest : ∀ n ∈ T.nodes, n.id ≠ 1 → nameB n.name = true ∧ (∃ p ∈ T.nodes, p.id = n.parent ∧ p.dir = true) ∧ climbs T.nodes 4 n.id = true
 uniq : T.nodes.Pairwise (fun a b => ¬ (a.parent = b.parent ∧ a.name = b.name))
theorem firstOk_id {r : NM} (h : firstOk r = true) : r.id = 1 ∧ r.parent = 0 := by
 unfold firstOk at h
 simp only [Bool.and_eq_true, beq_iff_eq] at h
 exact ⟨h.1.1.1.1, h.1.1.1.2⟩
theorem up_of {ns : List NM} (h : ∀ i, 0 < i → ∀ hi : i < ns.length, ns[i - 1].id < ns[i].id) : Up2 ns := by
 refine List.pairwise_iff_getElem.2 fun i j hi hj hij => ?_
 induction j with
 | zero => omega
 | succ j ih =>
  have h1 := h (j + 1) (by omega) hj
  simp only [Nat.add_sub_cancel] at h1
  rcases Nat.eq_or_lt_of_le (Nat.le_of_lt_succ hij) with e | e
  ·subst e; exact h1
  ·have := ih (by omega) e; omega
theorem TP.of {T : TM} (h : treeOk T = true) : TP T := by
 obtain ⟨l1, l2, l3⟩ := tree_len h
 have hg : ∀ i (hi : i < T.nodes.length), T.nodes.getD i default = T.nodes[i] := fun i hi => getD_iz hi
 have hn : ∀ i (hi : i < T.nodes.length), T.nodes[i].id < T.next ∧ (if i = 0 then firstOk T.nodes[i] = true else T.nodes[i - 1].id < T.nodes[i].id) ∧ (if T.nodes[i].dir then dirOk T.nodes[i] else fileOk T.nodes[i]) = true ∧ (i ≠ 0 → nameB T.nodes[i].name = true ∧ 0 ≤ atI T.nodes T.nodes[i].parent ∧ (T.nodes.getD (atI T.nodes T.nodes[i].parent).toNat default).dir = true ∧ (∀ j (hj : j < i), ¬ (T.nodes[j].parent = T.nodes[i].parent ∧ T.nodes[j].name = T.nodes[i].name)) ∧ climbs T.nodes 4 T.nodes[i].id = true) := by
  intro i hi
  have h1 := tree_node h i hi
  unfold nodeOk at h1
  rw [hg i hi, hg (i - 1) (by omega)] at h1
  simp only [Bool.and_eq_true, Bool.or_eq_true, decide_eq_true_eq, List.all_eq_true, List.mem_range] at h1
  obtain ⟨⟨⟨b1, b2⟩, b3⟩, b4⟩ := h1
  refine ⟨b1, ?_, b3, fun h0 => ?_⟩
  ·split
   ·rename_i e; rw [if_pos e] at b2; exact b2
   ·rename_i e; rw [if_neg e] at b2; simpa using b2
  ·rcases b4 with b4 | b4
   ·exact absurd b4 h0
   ·obtain ⟨⟨⟨⟨c1, c2⟩, c3⟩, c4⟩, c5⟩ := b4
    refine ⟨c1, c2, c3, fun j hj => ?_, c5⟩
    have := c4 j hj
    rw [hg j (by omega)] at this
    rintro ⟨x, y⟩
    simp [x, y] at this
 have up : Up2 T.nodes := up_of fun i h0 hi => by have := (hn i hi).2.1; rw [if_neg (by omega)] at this; exact this
 have hr := (hn 0 (by omega)).2.1
 rw [if_pos rfl] at hr
 refine ⟨l2, l3, up, ?_, ?_, ?_, ?_, ?_⟩
 ·intro n hm
  obtain ⟨i, hi, rfl⟩ := List.getElem_of_mem hm
  exact (hn i hi).1
 ·cases e : T.nodes with
  | nil => rw [e] at l1; simp at l1
  | cons r rest => exact ⟨r, rest, rfl, by simpa [e] using hr⟩
 ·intro n hm
  obtain ⟨i, hi, rfl⟩ := List.getElem_of_mem hm
  exact (hn i hi).2.2.1
 ·intro n hm h1
  obtain ⟨i, hi, rfl⟩ := List.getElem_of_mem hm
  have h0 : i ≠ 0 := fun e => by subst e; exact h1 (firstOk_id hr).1
  obtain ⟨c1, c2, c3, _, c5⟩ := (hn i hi).2.2.2 h0
  refine ⟨c1, ?_, c5⟩
  rcases atI_cases T.nodes T.nodes[i].parent with ⟨e, _⟩ | ⟨k, hk, e1, e2⟩
  ·rw [e] at c2; omega
  ·rw [e1] at c3
   simp only [Int.toNat_natCast] at c3
   rw [hg k hk] at c3
   exact ⟨_, List.getElem_mem hk, e2, c3⟩
 ·refine List.pairwise_iff_getElem.2 fun i j hi hj hij => ?_
  exact ((hn j hj).2.2.2 (by omega)).2.2.2.1 i hij
theorem TP.ok {T : TM} (h : TP T) : treeOk T = true := by
 obtain ⟨r, rest, er, hr⟩ := h.first
 have l1 : 1 ≤ T.nodes.length := by rw [er]; simp
 have hg : ∀ i (hi : i < T.nodes.length), T.nodes.getD i default = T.nodes[i] := fun i hi => getD_iz hi
 have h0 : T.nodes[0] = r := by simp [er]
 have hup := List.pairwise_iff_getElem.1 h.up
 have huq := List.pairwise_iff_getElem.1 h.uniq
 unfold treeOk
 simp only [Bool.and_eq_true, decide_eq_true_eq, List.all_eq_true, List.mem_range]
 refine ⟨⟨⟨l1, h.len⟩, h.nx⟩, fun i hi => ?_⟩
 unfold nodeOk
 rw [hg i hi, hg (i - 1) (by omega)]
 have hm : T.nodes[i] ∈ T.nodes := List.getElem_mem hi
 simp only [Bool.and_eq_true, Bool.or_eq_true, decide_eq_true_eq, List.all_eq_true, List.mem_range]
 refine ⟨⟨⟨h.lt _ hm, ?_⟩, h.kind _ hm⟩, ?_⟩
 ·split
  ·rename_i e; subst e; rw [h0]; exact hr
  ·rename_i e; simpa using hup (i - 1) i (by omega) hi (by omega)
 ·by_cases e : i = 0
  ·exact .inl e
  ·right
   have hid : T.nodes[i].id ≠ 1 := by
    have := hup 0 i (by omega) hi (by omega)
    rw [h0, (firstOk_id hr).1] at this
    omega
   obtain ⟨c1, ⟨p, hp, e1, e2⟩, c3⟩ := h.rest _ hm hid
   obtain ⟨a1, a2⟩ := h.up.at hp
   rw [e1] at a1 a2
   refine ⟨⟨⟨⟨c1, a1⟩, by rw [a2]; exact e2⟩, fun j hj => ?_⟩, c3⟩
   have := huq j i (by omega) hi hj
   rw [hg j (by omega)]
   by_cases x : T.nodes[j].parent = T.nodes[i].parent
   ·by_cases y : T.nodes[j].name = T.nodes[i].name
    ·exact absurd ⟨x, y⟩ this
    ·simp [y]
   ·simp [x]
theorem TP.pos {T : TM} (h : TP T) {n : NM} (hn : n ∈ T.nodes) : 1 ≤ n.id := by
 obtain ⟨r, rest, er, hr⟩ := h.first
 have hu := h.up
 rw [er] at hn hu
 rcases List.mem_cons.1 hn with rfl | hm
 ·have := (firstOk_id hr).1; omega
 ·have := (List.pairwise_cons.1 hu).1 n hm; have := (firstOk_id hr).1; omega
theorem TP.root {T : TM} (h : TP T) {top : Int} (h0 : top ≠ 0) (h1 : top ≠ 1) (m : Nat) : belowF T.nodes m 1 top = false := by
 obtain ⟨r, rest, er, hr⟩ := h.first
 have hm : r ∈ T.nodes := by rw [er]; simp
 obtain ⟨q1, q2⟩ := firstOk_id hr
 cases m with
 | zero => rfl
 | succ m =>
  have := h.up.below hm m top
  rw [q1, q2] at this
  rw [this, if_neg (Ne.symm h1)]
  cases m with
  | zero => rfl
  | succ m =>
   refine belowF_none (Ne.symm h0) ?_
   rw [List.findIdx?_eq_none_iff]
   intro n hn
   have := h.pos hn
   simp
   omega
theorem TP.steps {T : TM} (h : TP T) {top : Int} (h0 : top ≠ 0) (h1 : top ≠ 1) : ∀ (f : Nat) (p : NM), p ∈ T.nodes → climbs T.nodes f p.id = true → ∀ m, f + 1 ≤ m → belowF T.nodes (m + 1) p.id top = belowF T.nodes m p.id top
 | 0, p, _, hc, _, _ => by simp [climbs] at hc
 | f + 1, p, hp, hc, m, hm => by
  obtain ⟨m, rfl⟩ : ∃ q, m = q + 1 := ⟨m - 1, by omega⟩
  rw [h.up.below hp, h.up.below hp]
  split
  ·rfl
  rw [h.up.climbs hp] at hc
  by_cases e : p.parent = 1
  ·rw [e, h.root h0 h1, h.root h0 h1]
  ·rw [if_neg e] at hc
   obtain ⟨q, hq, e2⟩ := climbs_mem hc
   rw [← e2] at hc ⊢
   exact TP.steps h h0 h1 f q hq hc m (by omega)
theorem TP.keep {T : TM} (h : TP T) {top : Int} (h0 : top ≠ 0) (h1 : top ≠ 1) {n p : NM} (hn : n ∈ T.nodes) (hp : p ∈ T.nodes) (e : p.id = n.parent) (hk : belowF T.nodes 15 n.id top = false) : belowF T.nodes 15 p.id top = false := by
 rw [h.up.below hn] at hk
 split at hk
 ·simp at hk
 by_cases e1 : p.id = 1
 ·rw [e1, h.root h0 h1]
 ·rw [h.steps h0 h1 4 p hp (h.rest p hp e1).2.2 14 (by omega), e]
  exact hk
theorem TP.drop {T : TM} (h : TP T) {top : Int} (h0 : top ≠ 0) (h1 : top ≠ 1) : TP (dropT T top) := by
 have hmem : ∀ n, n ∈ (dropT T top).nodes ↔ n ∈ T.nodes ∧ belowF T.nodes 15 n.id top = false := fun n => by simp [dropT]
 have hup : Up2 (dropT T top).nodes := List.Pairwise.filter _ h.up
 obtain ⟨r, rest, er, hr⟩ := h.first
 have hcl : ∀ f n, n ∈ T.nodes → belowF T.nodes 15 n.id top = false → climbs T.nodes f n.id = true → climbs (dropT T top).nodes f n.id = true := by
  intro f
  induction f with
  | zero => intro n _ _ hc; simp [climbs] at hc
  | succ f ih =>
   intro n hn hk hc
   rw [h.up.climbs hn] at hc
   rw [hup.climbs ((hmem n).2 ⟨hn, hk⟩)]
   by_cases e : n.parent = 1
   ·rw [if_pos e]
   ·rw [if_neg e] at hc ⊢
    obtain ⟨q, hq, e2⟩ := climbs_mem hc
    rw [← e2] at hc ⊢
    exact ih q hq (h.keep h0 h1 hn hq e2 hk) hc
 refine ⟨Nat.le_trans (List.length_filter_le _ _) h.len, h.nx, hup, fun n hn => h.lt n ((hmem n).1 hn).1, ?_, fun n hn => h.kind n ((hmem n).1 hn).1, ?_, List.Pairwise.filter _ h.uniq⟩
 ·have hkr : belowF T.nodes 15 r.id top = false := by rw [(firstOk_id hr).1]; exact h.root h0 h1 15
  refine ⟨r, rest.filter (fun n => !belowF T.nodes 15 n.id top), ?_, hr⟩
  show T.nodes.filter (fun n => !belowF T.nodes 15 n.id top) = _
  generalize hb : (fun n : NM => !belowF T.nodes 15 n.id top) = b
  have hbr : b r = true := by rw [← hb]; simp [hkr]
  rw [er, List.filter_cons, if_pos hbr]
 ·intro n hn hid
  obtain ⟨hm, hk⟩ := (hmem n).1 hn
  obtain ⟨c1, ⟨p, hp, e1, e2⟩, c3⟩ := h.rest n hm hid
  exact ⟨c1, ⟨p, (hmem p).2 ⟨hp, h.keep h0 h1 hm hp e1 hk⟩, e1, e2⟩, hcl 4 n hm hk c3⟩
theorem dropT_ok {T : TM} {top : Int} (h : treeOk T = true) (h0 : top ≠ 0) (h1 : top ≠ 1) : treeOk (dropT T top) = true := ((TP.of h).drop h0 h1).ok
theorem find_low {ns : List NM} : ∀ (L : List ByteArray) (c : Int), c ≠ 0 → L ≠ [] → findF ns L c = 0 ∨ ∃ n ∈ ns, n.parent ≠ 0 ∧ n.id = findF ns L c
 | [], _, _, h => absurd rfl h
 | p :: ps, c, hc, _ => by
  unfold findF
  split
  ·exact .inl rfl
  ·rename_i h0
   cases ps with
   | nil =>
    rcases kid_mem ns c p ns 0 with e | ⟨n, hn, e1, -, e⟩
    ·exact absurd e h0
    ·exact .inr ⟨n, hn, by rw [e1]; exact hc, e⟩
   | cons q qs => exact find_low (q :: qs) _ h0 (by simp)
theorem named_low {T : TM} {p : ByteArray} (h : treeOk T = true) (hp : named p = true) (h0 : findX T p ≠ 0) : findX T p ≠ 1 := by
 have hP := TP.of h
 have hne : (splitB p).1 ≠ [] := by
  unfold named parentB at hp
  split at hp
  ·rename_i q; exact q.2
  ·simp at hp
 intro e
 have h2 : findX T p = findF T.nodes (splitB p).1 1 := by
  unfold findX at h0 ⊢
  split at h0
  ·rename_i q; rw [if_pos q]
  ·exact absurd rfl h0
 rcases find_low (ns := T.nodes) (splitB p).1 1 (by omega) hne with q | ⟨n, hn, h3, h4⟩
 ·rw [h2] at h0; exact h0 q
 ·obtain ⟨r, rest, er, hr⟩ := hP.first
  have hm : r ∈ T.nodes := by rw [er]; simp
  have : n = r := hP.up.one hn hm (by rw [h4, ← h2, e, (firstOk_id hr).1])
  rw [this] at h3
  exact h3 (firstOk_id hr).2
theorem addX_ok {T : TM} {p : ByteArray} {x : NM} (h : treeOk T = true) : treeOk (addX T p x).1 = true := by
 unfold addX
 split
 ·exact h
 split
 ·exact h
 split
 ·exact h
 split
 ·exact h
 ·rename_i q
  have : ¬ treeOk (addT T p x) = false := fun e => q (.inr (.inr e))
  simpa using this
theorem moveX_ok {T : TM} {p : ByteArray} {id : Int} (h : treeOk T = true) : treeOk (moveX T p id).1 = true := by
 unfold moveX
 split
 ·exact h
 split
 ·exact h
 split
 ·exact h
 split
 ·exact h
 split
 ·exact h
 ·rename_i q
  simpa using q
theorem edit_numz {e : EM} (h : editOk e = true) (h10 : e.kind ≠ 10) : 1 ≤ e.kind ∧ e.kind ≤ 10 ∧ pathBad e = false ∧ (e.kind = 5 → 1 ≤ e.num ∧ e.num ≤ 3) ∧ (e.kind = 6 → 0 ≤ e.num ∧ e.num ≤ 1000) ∧ (e.kind = 7 → 1 ≤ e.num ∧ e.num ≤ 200) ∧ (e.kind = 9 → 0 ≤ e.who ∧ e.who ≤ 9) := by
 unfold editOk at h
 rw [if_neg h10] at h
 simp only [Bool.and_eq_true, inI_iff, Bool.not_eq_true'] at h
 obtain ⟨⟨a1, a2⟩, a3, a4⟩ := h
 unfold numsOk at a4
 refine ⟨a1, a2, a3, fun q => ?_, fun q => ?_, fun q => ?_, fun q => ?_⟩
 ·simp [q, inI_iff] at a4; omega
 ·simp [q, inI_iff] at a4; omega
 ·simp [q, inI_iff] at a4; omega
 ·simp [q, inI_iff] at a4; omega
theorem applyX_ok {T : TM} {e : EM} {g : Int} (h : treeOk T = true) : treeOk (applyX T e g).1 = true := by
 unfold applyX
 split
 ·exact h
 rename_i hm
 have hm' : mayX T e g = true := by simpa using hm
 unfold mayX at hm'
 simp only [Bool.and_eq_true, inI_iff] at hm'
 obtain ⟨⟨-, he⟩, g1, g2⟩ := hm'
 split
 ·exact h
 rename_i h10
 obtain ⟨k1, k2, hpb, n5, n6, n7, n9⟩ := edit_numz he h10
 split
 ·exact addX_ok h
 split
 ·exact addX_ok h
 split
 ·exact h
 rename_i h1 h2 hf
 obtain ⟨k, hk, e1, e2⟩ := find_there hf
 have hpl : plc T (findX T e.path) < T.nodes.length := by unfold plc; rw [e1]; simpa using hk
 split
 ·exact moveX_ok h
 rename_i h3
 split
 ·rename_i h4
  refine dropT_ok h hf (named_low h ?_ hf)
  unfold pathBad at hpb
  simp [h4] at hpb
  exact hpb.1.1
 rename_i h4
 split
 ·rename_i q
  refine setX_ok h hpl ?_
  rcases q with q | q
  ·exact .inl ⟨q, n5 q⟩
  ·exact .inr ⟨q, n6 q⟩
 ·rename_i q
  exact writeX_ok h hpl (fun q9 q8 => n7 (by omega)) n9 g1 g2
theorem stepX_ok {s : TM × Int} {e : EM} (h : treeOk s.1 = true) : treeOk (stepX s e).1 = true := by
 unfold stepX
 split
 ·exact applyX_ok h
 ·exact h
theorem allX_ok {T : TM} (es : List EM) (g : Int) (h : treeOk T = true) : treeOk (allX T es g).1 = true := by
 unfold allX
 have : ∀ (es : List EM) (s : TM × Int), treeOk s.1 = true → treeOk (es.foldl stepX s).1 = true := by
  intro es
  induction es with
  | nil => intro s hs; exact hs
  | cons e es ih => intro s hs; exact ih _ (stepX_ok hs)
 exact this es (T, g) h
inductive Way (ns : List NM) : NM → List NM → Prop
 | root {r : NM} : r ∈ ns → r.id = 1 → r.parent = 0 → Way ns r []
 | step {n p : NM} {L : List NM} : n ∈ ns → n.id ≠ 1 → p ∈ ns → p.id = n.parent → Way ns p L → Way ns n (L ++ [n])
theorem Way.mem {ns : List NM} {n : NM} {L : List NM} (h : Way ns n L) : n ∈ ns := by
 cases h with
 | root h => exact h
 | step h => exact h
theorem Way.det {ns : List NM} (hu : Up2 ns) {n : NM} {L : List NM} (h : Way ns n L) : ∀ {M : List NM}, Way ns n M → L = M := by
 induction h with
 | root h1 h2 _ =>
  intro M h'
  cases h' with
  | root => rfl
  | step _ h3 => exact absurd h2 h3
 | @step n p L h1 h2 h3 h4 h5 ih =>
  intro M h'
  cases h' with
  | root _ q => exact absurd q h2
  | @step _ p' L' _ _ q3 q4 q5 =>
   have : p = p' := hu.one h3 q3 (by rw [h4, q4])
   subst this
   rw [ih q5]
theorem TP.one {T : TM} (h : TP T) {r : NM} (hr : r ∈ T.nodes) (e : r.id = 1) : r.parent = 0 := by
 obtain ⟨r', rest, er, hf⟩ := h.first
 have : r = r' := h.up.one hr (by rw [er]; simp) (by rw [e, (firstOk_id hf).1])
 rw [this]
 exact (firstOk_id hf).2
theorem TP.root_in {T : TM} (h : TP T) : ∃ r ∈ T.nodes, r.id = 1 ∧ r.parent = 0 ∧ firstOk r = true := by
 obtain ⟨r, rest, er, hr⟩ := h.first
 exact ⟨r, by rw [er]; simp, (firstOk_id hr).1, (firstOk_id hr).2, hr⟩
theorem Way.all {ns : List NM} {n : NM} {L : List NM} (h : Way ns n L) : ∀ m ∈ L, m ∈ ns ∧ m.id ≠ 1 := by
 induction h with
 | root => intro m hm; simp at hm
 | @step n p L h1 h2 h3 h4 h5 ih =>
  intro m hm
  rcases List.mem_append.1 hm with q | q
  ·exact ih m q
  ·rw [List.mem_singleton.1 q]; exact ⟨h1, h2⟩
theorem TP.below_way {T : TM} (h : TP T) {n : NM} {L : List NM} (hw : Way T.nodes n L) : ∀ (f : Nat) {top : Int}, L.length < f → top ≠ 0 → belowF T.nodes f n.id top = (decide (top = 1) || L.any (fun m => decide (m.id = top))) := by
 induction hw with
 | @root r h1 h2 h3 =>
  intro f top hf h0
  obtain ⟨f, rfl⟩ : ∃ q, f = q + 1 := ⟨f - 1, by omega⟩
  rw [h.up.below h1, h2, h3]
  by_cases e : (1 : Int) = top
  ·simp [e]
  ·rw [if_neg e]
   have e' : ¬ top = 1 := fun q => e q.symm
   simp only [e', decide_false, List.any_nil, Bool.or_false]
   cases f with
   | zero => rfl
   | succ f =>
    refine belowF_none (Ne.symm h0) ?_
    rw [List.findIdx?_eq_none_iff]
    intro n hn
    have := h.pos hn
    simp
    omega
 | @step n p L h1 h2 h3 h4 h5 ih =>
  intro f top hf h0
  obtain ⟨f, rfl⟩ : ∃ q, f = q + 1 := ⟨f - 1, by omega⟩
  rw [h.up.below h1, ← h4]
  have hl : L.length < f := by simp at hf; omega
  rw [ih f hl h0, List.any_append]
  by_cases e : n.id = top
  ·simp [e]
  ·rw [if_neg e]; simp [e]
def blB (T : TM) (n : NM) (top : Int) : Bool := belowF T.nodes 15 n.id top
def sm (f : NM → Int) : List NM → Int
 | [] => 0
 | n :: ns => f n + sm f ns
theorem newX_ok9 : treeOk newX = true := by decide
theorem kid_keep (c : Int) (nm : ByteArray) : ∀ (ns : List NM) (z : Int), z ≠ 0 → ns.foldl (kidS c nm) z = z
 | [], z, _ => rfl
 | n :: ns, z, hz => by
  rw [List.foldl_cons]
  have : kidS c nm z n = z := by unfold kidS; rw [if_neg (by intro q; exact hz q.2.2)]
  rw [this]
  exact kid_keep c nm ns z hz
theorem kid_find (c : Int) (nm : ByteArray) : ∀ (ns : List NM), (∀ n ∈ ns, n.id ≠ 0) → kidF ns c nm = match ns.find? (fun n => n.parent == c && decide (n.name = nm)) with
  | none => 0
  | some n => n.id
 | [], _ => rfl
 | n :: ns, h => by
  have ih := kid_find c nm ns (fun m hm => h m (by simp [hm]))
  unfold kidF at ih ⊢
  rw [List.foldl_cons]
  by_cases e : n.parent = c ∧ n.name = nm
  ·have e1 : kidS c nm 0 n = n.id := by unfold kidS; rw [if_pos ⟨e.1, e.2, rfl⟩]
   rw [e1, kid_keep c nm ns n.id (h n (by simp)), List.find?_cons_of_pos (by simp [e.1, e.2])]
  ·have e1 : kidS c nm 0 n = 0 := by unfold kidS; rw [if_neg (by intro q; exact e ⟨q.1, q.2.1⟩)]
   rw [e1, ih, List.find?_cons_of_neg (by simpa using e)]
theorem TP.same {T : TM} (h : TP T) {a b : NM} (ha : a ∈ T.nodes) (hb : b ∈ T.nodes) (e1 : a.parent = b.parent) (e2 : a.name = b.name) : a = b := by
 obtain ⟨i, hi, rfl⟩ := List.getElem_of_mem ha
 obtain ⟨j, hj, rfl⟩ := List.getElem_of_mem hb
 have hp := List.pairwise_iff_getElem.1 h.uniq
 rcases Nat.lt_trichotomy i j with q | q | q
 ·exact absurd ⟨e1, e2⟩ (hp i j hi hj q)
 ·subst q; rfl
 ·exact absurd ⟨e1.symm, e2.symm⟩ (hp j i hj hi q)
theorem TP.nz {T : TM} (h : TP T) : ∀ n ∈ T.nodes, n.id ≠ 0 := fun n hn => by have := h.pos hn; omega
theorem TP.kid {T : TM} (h : TP T) {n : NM} (hn : n ∈ T.nodes) : kidF T.nodes n.parent n.name = n.id := by
 rw [kid_find _ _ _ h.nz]
 cases e : T.nodes.find? (fun m => m.parent == n.parent && decide (m.name = n.name)) with
 | none =>
  have := List.find?_eq_none.1 e n hn
  simp at this
 | some m =>
  have h1 := List.find?_some e
  have h2 := List.mem_of_find?_eq_some e
  simp only [Bool.and_eq_true, beq_iff_eq, decide_eq_true_eq] at h1
  rw [h.same h2 hn h1.1 h1.2]
theorem TP.kid_inv {T : TM} (h : TP T) {c : Int} {nm : ByteArray} (h0 : kidF T.nodes c nm ≠ 0) : ∃ n ∈ T.nodes, n.parent = c ∧ n.name = nm ∧ n.id = kidF T.nodes c nm := by
 rw [kid_find _ _ _ h.nz] at h0 ⊢
 cases e : T.nodes.find? (fun m => m.parent == c && decide (m.name = nm)) with
 | none => rw [e] at h0; exact absurd rfl h0
 | some m =>
  have h1 := List.find?_some e
  simp only [Bool.and_eq_true, beq_iff_eq, decide_eq_true_eq] at h1
  exact ⟨m, List.mem_of_find?_eq_some e, h1.1, h1.2, rfl⟩
theorem TP.find_inv {T : TM} (h : TP T) : ∀ (M : List ByteArray) {p : NM} {L : List NM}, Way T.nodes p L → findF T.nodes M p.id ≠ 0 → ∃ n K, Way T.nodes n K ∧ n.id = findF T.nodes M p.id ∧ K.map NM.name = L.map NM.name ++ M
 | [], p, L, hw, _ => ⟨p, L, hw, rfl, by simp⟩
 | s :: M, p, L, hw, h0 => by
  unfold findF at h0 ⊢
  by_cases e : kidF T.nodes p.id s = 0
  ·rw [if_pos e] at h0; exact absurd rfl h0
  ·rw [if_neg e] at h0 ⊢
   obtain ⟨n, hn, e1, e2, e3⟩ := h.kid_inv e
   have hn1 : n.id ≠ 1 := fun q => by
    have := h.one hn q
    exact h.nz p hw.mem (by rw [← e1, this])
   have hw2 : Way T.nodes n (L ++ [n]) := .step hn hn1 hw.mem e1.symm hw
   rw [← e3] at h0 ⊢
   obtain ⟨m, K, q1, q2, q3⟩ := TP.find_inv h M hw2 h0
   exact ⟨m, K, q1, q2, by rw [q3, List.map_append]; simp [e2]⟩
theorem root_at {T : TM} (h : TP T) : 0 ≤ atI T.nodes 1 := by
 obtain ⟨r, hr, r1, _⟩ := h.root_in
 have := (h.up.at hr).1
 rw [r1] at this
 exact this
theorem found_way {T : TM} (h : treeOk T = true) {p : ByteArray} (h0 : findX T p ≠ 0) : ∃ n K, Way T.nodes n K ∧ n.id = findX T p ∧ joinB (K.map NM.name) = p ∧ K.length ≤ 4 ∧ (splitB p) = (K.map NM.name, true) := by
 have hp := TP.of h
 unfold findX at h0 ⊢
 by_cases hs : (splitB p).2 = true ∧ 0 ≤ atI T.nodes 1
 ·rw [if_pos hs] at h0 ⊢
  obtain ⟨r, hr, r1, r0, _⟩ := hp.root_in
  rw [← r1] at h0 ⊢
  obtain ⟨n, K, q1, q2, q3⟩ := hp.find_inv _ (.root hr r1 r0) h0
  rw [List.map_nil, List.nil_append] at q3
  refine ⟨n, K, q1, q2, by rw [q3]; exact joinB_split hs.1, ?_, by rw [q3, ← hs.1]⟩
  have := (splitB_names p).2
  rw [← q3, List.length_map] at this
  exact this
 ·rw [if_neg hs] at h0; exact absurd rfl h0
theorem Way.nil {ns : List NM} {n : NM} (h : Way ns n []) : n.id = 1 := by
 generalize e : ([] : List NM) = L at h
 cases h with
 | root _ h => exact h
 | step => simp at e
end Go.Proofs.YtakhagkhngmpaaaGreat
