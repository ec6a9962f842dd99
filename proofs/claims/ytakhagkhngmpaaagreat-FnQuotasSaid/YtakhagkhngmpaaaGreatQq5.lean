/- Texts of ours, laid one behind the other: TreS, TreT, TreN, TreU, TreW, TreX, TreY, ApM, ApA, ApF, ApH, TreJ, ApR. -/
import Derived.Test.YtakhagkhngmpaaaGreatQqTreR
import Derived.Test.YtakhagkhngmpaaaGreatQq2
import Derived.Test.YtakhagkhngmpaaaGreatQqCpB
import Derived.Maps.AppendAt
/- TreS: . -/
namespace Go.Proofs.YtakhagkhngmpaaaGreat
set_option maxRecDepth 100000
open Go.RowKit
attribute [local go_sem ↓] Go.wp_at_zero Go.wp_at_succ
attribute [local irreducible] nodeOk
theorem treeOk_len {T : TM} (h : inI (T.nodes.length : Int) 1 14 = false) : treeOk T = false := by
 unfold treeOk
 unfold inI at h
 have : (decide (1 ≤ T.nodes.length) && decide (T.nodes.length ≤ 14)) = false := by
  rw [← h]
  congr 1
  ·exact decide_eq_decide.2 ⟨fun h => by omega, fun h => by omega⟩
  ·exact decide_eq_decide.2 ⟨fun h => by omega, fun h => by omega⟩
 rw [this]; rfl
theorem treeOk_next {T : TM} (h : ¬ T.next ≤ 100000) : treeOk T = false := by unfold treeOk; rw [decide_eq_false h]; simp
theorem treeOk_no {T : TM} {k : Nat} (hk : k < T.nodes.length) (h : nodeOk T k = false) : treeOk T = false := by
 have : (List.range T.nodes.length).all (nodeOk T) = false := by
  cases e : (List.range T.nodes.length).all (nodeOk T) with
  | false => rfl
  | true => rw [List.all_eq_true] at e; rw [e k (List.mem_range.2 hk)] at h; cases h
 unfold treeOk; rw [this]; simp
theorem treeOk_yes {T : TM} (h1 : inI (T.nodes.length : Int) 1 14 = true) (h2 : T.next ≤ 100000) (h3 : ∀ k, k < T.nodes.length → nodeOk T k = true) : treeOk T = true := by
 rw [inI_iff] at h1
 unfold treeOk
 rw [decide_eq_true (show 1 ≤ T.nodes.length by omega), decide_eq_true (show T.nodes.length ≤ 14 by omega), decide_eq_true h2, show (List.range T.nodes.length).all (nodeOk T) = true from List.all_eq_true.2 (fun k hk => h3 k (List.mem_range.1 hk))]; rfl
set_option maxHeartbeats 2000000 in
theorem specTreeOk {w : World} {v : Value} {T : TM} {lo hi : Nat} (h : TSee w v T lo hi) (hf : NFit T) : Calls Tryz.prog 60 #[v] w fun e w' => e = .returned (.bool (treeOk T)) ∧ Below w.heap.size w w' := by
 obtain ⟨a, cap, rs, rfl, hr, hm⟩ := h
 obtain ⟨n, hn⟩ : ∃ n, n = rs.length := ⟨_, rfl⟩
 have hnl : n = T.nodes.length := by rw [hn, ← hr, nds_len]
 have hp : ∀ r ∈ rs, r.nd.pieces.length ≤ 1048576 ∧ r.nd.name.size ≤ 1048576 := fun r hx => by
  have := nsum_mem (ns := T.nodes) (n := r.nd) (by rw [← hr]; exact List.mem_map.2 ⟨r, hx, rfl⟩)
  unfold NFit at hf
  omega
 have hn9 : n ≤ 1048576 := by unfold NFit at hf; omega
 obtain ⟨R, hR⟩ : ∃ R, R = treeOk T := ⟨_, rfl⟩
 have HR := Shut.mk hR
 obtain ⟨nodes, nx⟩ := T
 dsimp only at hr hnl
 subst hr
 rw [← hR, ← hn]
 have HM := Shut.mk (And.intro hm (And.intro hp (And.intro hn hnl)))
 obtain ⟨W, hW⟩ : ∃ W, W = w.alloc (.cells #[.slice a n cap, .int .i64 nx] 26) := ⟨_, rfl⟩
 have HB : Shut (Below w.heap.size w W) := ⟨by rw [hW]; exact (Below.refl _ _).alloc (Nat.le_refl _) _⟩
 have HX : Shut (WCells W w.heap.size [.slice a n cap, .int .i64 nx]) := ⟨by rw [hW]; exact wcells_new w #[.slice a n cap, .int .i64 nx] 26⟩
 have x0 := (HX.out.2 0 _ rfl).1
 have x1 := (HX.out.2 1 _ rfl).1
 clear hm hp hf hR hn hnl
 cases h1 : inI (n : Int) 1 14 with
 | false =>
  have HE : Shut (R = false) := ⟨by rw [HR.out]; exact treeOk_len (by rw [← HM.out.2.2.2]; exact h1)⟩
  go_enter Tryz.func60, Tryz.ntmps60
  go_upto_region 1 with fail
  rw [← hW]
  clear hW
  go_wp2_with fail
  refine (isInI (n : Int) 1 14 _ false h1).mono ?_
  rintro e w1 ⟨rfl, hw1⟩
  obtain rfl : W = w1 := hw1.symm
  clear hw1
  go_wp2_with fail
  go_ret
  exact ⟨by rw [HE.out]; rfl, HB.out⟩
 | true =>
  have hn14 := (inI_iff.1 h1).2
  by_cases h2 : nx ≤ 100000
  case neg =>
   have h2' : (100000 : Int) < nx := by omega
   have HE : Shut (R = false) := ⟨by rw [HR.out]; exact treeOk_next h2⟩
   go_enter Tryz.func60, Tryz.ntmps60
   go_upto_region 1 with fail
   rw [← hW]
   clear hW
   go_wp2_with fail
   refine (isInI (n : Int) 1 14 _ true h1).mono ?_
   rintro e w1 ⟨rfl, hw1⟩
   obtain rfl : W = w1 := hw1.symm
   clear hw1
   go_wp2_with fail
   go_ret
   exact ⟨by rw [HE.out]; rfl, HB.out⟩
  have h2' : ¬ (100000 : Int) < nx := by omega
  have HY := Shut.mk (fun (q : ∀ k, k < n → nodeOk ⟨nds rs, nx⟩ k = true) => HR.out.trans (treeOk_yes (T := ⟨nds rs, nx⟩) (by show inI ((nds rs).length : Int) 1 14 = true; rw [← HM.out.2.2.2]; exact h1) h2 (fun k hk => q k (by rw [HM.out.2.2.2]; exact hk))))
  have HNO := Shut.mk (fun (k : Nat) (hk : k < n) (q : nodeOk ⟨nds rs, nx⟩ k = false) => HR.out.trans (treeOk_no (T := ⟨nds rs, nx⟩) (by show k < (nds rs).length; rw [← HM.out.2.2.2]; exact hk) q))
  have HND := Shut.mk (fun (W : World) (hW : Below w.heap.size w W) (k : Nat) (hk : k < n) => specNode (cap := cap) (nx := nx) k (HM.out.1.below hW) (by rw [← HM.out.2.2.1]; exact hk) (by rw [← HM.out.2.2.1]; omega) HM.out.2.1)
  rw [← HM.out.2.2.1] at HND
  go_enter Tryz.func60, Tryz.ntmps60
  go_upto_region 1 with fail
  rw [← hW]
  clear hW
  go_wp2_with fail
  refine (isInI (n : Int) 1 14 _ true h1).mono ?_
  rintro e w1 ⟨rfl, hw1⟩
  obtain rfl : W = w1 := hw1.symm
  clear hw1 h1 x0 x1
  have x0 := (HX.out.2 0 _ rfl).1
  have x1 := (HX.out.2 1 _ rfl).1
  go_wp2_with fail
  go_loopw [3] (fun i wr => ∃ (k : Nat), i = .int .i64 k ∧ k ≤ n ∧ Shut (∀ j, j < k → nodeOk ⟨nds rs, nx⟩ j = true) ∧ Shut (Below W.heap.size W wr)) (fun i _ => n - (intOf i).toNat)
  case atStart => exact ⟨0, rfl, Nat.zero_le _, ⟨fun j hj => by omega⟩, ⟨Below.refl _ _⟩⟩
  case round =>
   clear x0 x1
   obtain ⟨k, rfl, hk, hall, hb⟩ := hrel
   have x0 := ((HX.out.grow hb.out).2 0 _ rfl).1
   have x1 := ((HX.out.grow hb.out).2 1 _ rfl).1
   by_cases hlt : k < n
   ·have k1 : (k : Int) < (n : Int) := by omega
    have HC := Shut.mk (HND.out wr (HB.out.trans (hb.out.mono HB.out.size)) k hlt)
    cases hok : nodeOk ⟨nds rs, nx⟩ k with
    | false =>
     have HE := Shut.mk (HNO.out k hlt hok)
     rw [hok] at HC
     clear hok
     go_wp2_with fail
     refine HC.out.mono ?_
     rintro e w2 ⟨rfl, hb2⟩
     have HB2 := Shut.mk (HB.out.trans ((hb.out.trans (hb2.mono hb.out.size)).mono HB.out.size))
     clear hb2
     go_wp2_with fail
     go_ret
     exact ⟨by rw [HE.out]; rfl, HB2.out⟩
    | true =>
     have HAL : Shut (∀ j, j < k + 1 → nodeOk ⟨nds rs, nx⟩ j = true) := ⟨fun j hj => by
      by_cases e : j = k
      ·subst e; exact hok
      ·exact hall.out j (by omega)⟩
     rw [hok] at HC
     clear hok hall
     go_wp2_with fail
     refine HC.out.mono ?_
     rintro e w2 ⟨rfl, hb2⟩
     have HB2 := Shut.mk (hb.out.trans (hb2.mono hb.out.size))
     clear hb2
     go_wp2_with fail
     go_roundw
     case rel => exact ⟨k + 1, by go_num, by omega, HAL, HB2⟩
     case measure => simp [intOf]; omega
   ·have k1 : ¬ (k : Int) < (n : Int) := by omega
    have HE := Shut.mk (HY.out (fun j hj => hall.out j (by omega)))
    go_wp2_with fail
    go_ret
    exact ⟨by rw [HE.out]; rfl, HB.out.trans (hb.out.mono HB.out.size)⟩
end Go.Proofs.YtakhagkhngmpaaaGreat
/- TreT: . -/
namespace Go.Proofs.YtakhagkhngmpaaaGreat
set_option maxRecDepth 100000
open Go.RowKit
attribute [local go_sem ↓] Go.wp_at_zero Go.wp_at_succ
attribute [local irreducible] nodeOk treeOk atI
def belowF (ns : List NM) : Nat → Int → Int → Bool
 | 0, _, _ => false
 | f + 1, id, top => if id = top then true else match ns.findIdx? (fun n => n.id == id) with
  | none => false
  | some k => belowF ns f (ns.getD k default).parent top
theorem belowF_same {ns : List NM} {f : Nat} {c top : Int} (h : c = top) : belowF ns (f + 1) c top = true := by
 conv => lhs; unfold belowF
 rw [if_pos h]
theorem belowF_none {ns : List NM} {f : Nat} {c top : Int} (h0 : c ≠ top) (h : ns.findIdx? (fun n => n.id == c) = none) : belowF ns (f + 1) c top = false := by
 conv => lhs; unfold belowF
 rw [if_neg h0, h]
theorem belowF_some {ns : List NM} {f i : Nat} {c top : Int} (h0 : c ≠ top) (h : ns.findIdx? (fun n => n.id == c) = some i) : belowF ns (f + 1) c top = belowF ns f (ns.getD i default).parent top := by
 conv => lhs; unfold belowF
 rw [if_neg h0, h]
def schemaF (ns : List NM) : Nat → Int → Int
 | 0, _ => 0
 | f + 1, id => match ns.findIdx? (fun n => n.id == id) with
  | none => 0
  | some k => if (ns.getD k default).schema ≠ 0 then (ns.getD k default).schema else schemaF ns f (ns.getD k default).parent
theorem schemaF_none {ns : List NM} {f : Nat} {c : Int} (h : ns.findIdx? (fun n => n.id == c) = none) : schemaF ns (f + 1) c = 0 := by
 conv => lhs; unfold schemaF
 rw [h]
theorem schemaF_some {ns : List NM} {f i : Nat} {c : Int} (h : ns.findIdx? (fun n => n.id == c) = some i) : schemaF ns (f + 1) c = if (ns.getD i default).schema ≠ 0 then (ns.getD i default).schema else schemaF ns f (ns.getD i default).parent := by
 conv => lhs; unfold schemaF
 rw [h]
def schemaAtX (T : TM) (id : Int) : Int := if treeOk T = true then schemaF T.nodes 15 id else 0
theorem at_cases (ns : List NM) (id : Int) : (atI ns id = -1 ∧ ns.findIdx? (fun n => n.id == id) = none) ∨ ∃ i, i < ns.length ∧ atI ns id = (i : Int) ∧ ns.findIdx? (fun n => n.id == id) = some i := by
 unfold atI
 cases h : ns.findIdx? (fun n => n.id == id) with
 | none => exact .inl ⟨rfl, rfl⟩
 | some i =>
  obtain ⟨hi, _⟩ := List.findIdx?_eq_some_iff_getElem.1 h
  exact .inr ⟨i, hi, rfl, rfl⟩
structure BX (w W : World) (a : Option Addr) (n cap : Nat) (nx : Int) : Prop where
 bel : Below w.heap.size w W
 box : WCells W w.heap.size [.slice a n cap, .int .i64 nx]
theorem BX.below {w W W' : World} {a : Option Addr} {n cap : Nat} {nx : Int} (h : BX w W a n cap nx) (hb : Below W.heap.size W W') : BX w W' a n cap nx := ⟨h.bel.trans (hb.mono h.bel.size), h.box.grow hb⟩
theorem BX.new (w : World) (a : Option Addr) (n cap : Nat) (nx : Int) (t : TypeId) : BX w (w.alloc (.cells #[.slice a n cap, .int .i64 nx] t)) a n cap nx := ⟨(Below.refl _ _).alloc (Nat.le_refl _) _, wcells_new w #[.slice a n cap, .int .i64 nx] t⟩
set_option maxHeartbeats 2000000 in
theorem specBelow {w : World} {v : Value} {T : TM} {lo hi : Nat} (id top : Int) (h : TSee w v T lo hi) (hf : NFit T) : Calls Tryz.prog 77 #[v, .int .i64 id, .int .i64 top] w fun e w' => e = .returned (.bool (belowF T.nodes 15 id top)) ∧ Below w.heap.size w w' := by
 have hl : T.nodes.length ≤ 1048576 := by unfold NFit at hf; omega
 have h' := h
 obtain ⟨a, cap, rs, rfl, hr, hm⟩ := h
 obtain ⟨n, hn⟩ : ∃ n, n = rs.length := ⟨_, rfl⟩
 rw [← hn] at h' ⊢
 have HTS := Shut.mk (fun W (hW : Below w.heap.size w W) (c : Int) => specAt c (h'.below hW) hl)
 obtain ⟨R, hR⟩ : ∃ R, R = belowF T.nodes 15 id top := ⟨_, rfl⟩
 have HR := Shut.mk hR
 rw [← hR]
 obtain ⟨nodes, nx⟩ := T
 dsimp only at hr HTS
 subst hr
 have HM := Shut.mk (And.intro hm hn)
 have hn9 : n ≤ 1048576 := by dsimp only at hl; rw [nds_len] at hl; omega
 clear hm hf hR hn h' hl
 go_enter Tryz.func77, Tryz.ntmps77
 go_upto_region 1 with fail
 refine wp_shade (fun W => BX w W a n cap nx) (BX.new w a n cap nx 26) ?_
 intro W hg
 have HG := Shut.mk hg
 clear hg
 go_wp2_with fail
 go_loopw [1, 7] (fun iv mv wr => ∃ (m : Nat) (c : Int), iv = .int .i64 c ∧ mv = .int .i64 m ∧ m ≤ 15 ∧ Shut (R = belowF (nds rs) (15 - m) c top) ∧ Shut (BX w wr a n cap nx)) (fun _ mv _ => 15 - (intOf mv).toNat)
 case atStart => exact ⟨0, id, rfl, rfl, by omega, ⟨HR.out⟩, HG⟩
 case round =>
  clear HG
  obtain ⟨m, c, rfl, rfl, hm15, hcl, HG⟩ := hrel
  by_cases hlt : m < 15
  ·have m1 : (m : Int) ≤ 14 := by omega
   obtain ⟨f, hf⟩ : ∃ f, f = 15 - (m + 1) := ⟨_, rfl⟩
   have hcl' := hcl.out
   rw [show 15 - m = f + 1 by omega] at hcl'
   by_cases he : c = top
   ·have he' : (c == top) = true := by simpa using he
    have HE : Shut (R = true) := ⟨by rw [hcl', belowF_same he]⟩
    clear he hcl' hcl hf
    go_wp2_with fail
    go_ret
    exact ⟨by rw [HE.out]; rfl, HG.out.bel⟩
   ·have he' : (c == top) = false := by simpa using he
    have x0 := (HG.out.box.2 0 _ rfl).1
    have x1 := (HG.out.box.2 1 _ rfl).1
    have HAT := Shut.mk (HTS.out wr HG.out.bel c)
    rcases at_cases (nds rs) c with ⟨hat, hfn⟩ | ⟨i, hi, hat, hfn⟩
    ·have HE : Shut (R = false) := ⟨by rw [hcl', belowF_none he hfn]⟩
     rw [hat] at HAT
     clear he hcl' hcl hf hfn hat
     go_wp2_with fail
     refine HAT.out.mono ?_
     rintro e W6 ⟨rfl, hb6⟩
     have HG6 := Shut.mk (HG.out.below hb6)
     clear hb6
     go_wp2_with fail
     go_ret
     exact ⟨by rw [HE.out]; rfl, HG6.out.bel⟩
    ·have hir : i < rs.length := by rw [nds_len] at hi; exact hi
     have HNX : Shut (R = belowF (nds rs) (15 - (m + 1)) rs[i].nd.parent top) := ⟨by rw [hcl', belowF_some he hfn, nds_getD hir, ← hf]⟩
     rw [hat] at HAT
     have i0 : (0 : Int) ≤ (i : Int) := by omega
     have i1 : (i : Int) < (n : Int) := by have := HM.out.2; omega
     have i2 : ¬ (i : Int) < 0 := by omega
     clear he hcl' hcl hf hfn hat hi
     go_wp2_with fail
     refine HAT.out.mono ?_
     rintro e W6 ⟨rfl, hb6⟩
     have HG6 := Shut.mk (HG.out.below hb6)
     clear hb6 x0 x1 HAT
     have x0 := (HG6.out.box.2 0 _ rfl).1
     obtain ⟨b, off, rfl, lb, hc⟩ := TR.nat (HM.out.1.below HG6.out.bel) (by omega)
     have e1 := (hc i hir).2.1
     clear hc
     generalize rs[i].nd.parent = pp at *
     go_wp2_with fail
     go_roundw
     case rel => exact ⟨m + 1, pp, rfl, by go_num, by omega, HNX, HG6⟩
     case measure => simp [intOf]; omega
  ·have hm : m = 15 := by omega
   have HE : Shut (R = false) := ⟨by rw [hcl.out, hm]; rfl⟩
   have m1 : ¬ (m : Int) ≤ 14 := by omega
   clear hm hcl
   go_wp2_with fail
   go_ret
   exact ⟨by rw [HE.out]; rfl, HG.out.bel⟩
end Go.Proofs.YtakhagkhngmpaaaGreat
/- TreN: . -/
namespace Go.Proofs.YtakhagkhngmpaaaGreat
set_option maxRecDepth 100000
open Go.RowKit
attribute [local go_sem ↓] Go.wp_at_zero Go.wp_at_succ
def kidS (c : Int) (nm : ByteArray) (z : Int) (n : NM) : Int := if n.parent = c ∧ n.name = nm ∧ z = 0 then n.id else z
def kidF (ns : List NM) (c : Int) (nm : ByteArray) : Int := ns.foldl (kidS c nm) 0
theorem kid_take (ns : List NM) (c : Int) (nm : ByteArray) (k : Nat) (h : k < ns.length) : (ns.take (k + 1)).foldl (kidS c nm) 0 = kidS c nm ((ns.take k).foldl (kidS c nm) 0) ns[k] := by
 rw [List.take_succ_eq_append_getElem h, List.foldl_append]
 rfl
def findF (ns : List NM) : List ByteArray → Int → Int
 | [], c => c
 | p :: ps, c => if kidF ns c p = 0 then 0 else findF ns ps (kidF ns c p)
theorem findF_step (ns : List NM) (L : List ByteArray) (j : Nat) (c : Int) (h : j < L.length) : findF ns (L.drop j) c = if kidF ns c (L.getD j ⟨#[]⟩) = 0 then 0 else findF ns (L.drop (j + 1)) (kidF ns c (L.getD j ⟨#[]⟩)) := by
 rw [List.drop_eq_getElem_cons h]
 conv => lhs; unfold findF
 simp [List.getD, h]
def findX (T : TM) (p : ByteArray) : Int := if (splitB p).2 = true ∧ 0 ≤ atI T.nodes 1 then findF T.nodes (splitB p).1 1 else 0
theorem own_crow9 {w : World} {B n : Nat} {t : TypeId} {a : Option Addr} {c : Nat} {L : List Value} (h : w.ownsRow B t 1 (.slice a n c) n L) (hn : n = L.length) : CRow w a L := by
 rcases Nat.eq_zero_or_pos n with h0 | hp
 ·intro q
  omega
 ·obtain ⟨g, cap, e, _⟩ := own_some9 h hp
  have e1 : a = some ⟨g, 0, none⟩ := by injection e
  subst e1
  exact (own_wcells h).crow
attribute [local irreducible] nodeOk treeOk atI
set_option maxHeartbeats 4000000 in
theorem specFindPath {w : World} {v : Value} {T : TM} {lo hi : Nat} (p : ByteArray) (h : TSee w v T lo hi) (hf : NFit T) (hp : p.size ≤ 1048576) : Calls Tryz.prog 20 #[v, .string p] w fun e w' => e = .returned (.int .i64 (findX T p)) ∧ Below w.heap.size w w' := by
 have hl : T.nodes.length ≤ 1048576 := by unfold NFit at hf; omega
 have h' := h
 obtain ⟨a, cap, rs, rfl, hr, hm⟩ := h
 obtain ⟨n, hn⟩ : ∃ n, n = rs.length := ⟨_, rfl⟩
 rw [← hn] at h' ⊢
 have HTS := Shut.mk (fun W (hW : Below w.heap.size w W) => specAt 1 (h'.below hW) hl)
 have HSP := Shut.mk (fun W => specSplitPath p W hp)
 have hnm := splitB_names p
 unfold OPost at HSP
 obtain ⟨R, hR⟩ : ∃ R, R = findX T p := ⟨_, rfl⟩
 rw [← hR]
 unfold findX at hR
 obtain ⟨L, ok, hre⟩ : ∃ L ok, splitB p = (L, ok) := ⟨_, _, rfl⟩
 rw [hre] at HSP hnm hR
 obtain ⟨nodes, nx⟩ := T
 dsimp only at hr HTS hR HSP hnm
 subst hr
 have HM := Shut.mk (And.intro hm hn)
 have hn9 : n ≤ 1048576 := by dsimp only at hl; rw [nds_len] at hl; omega
 have hl4 := hnm.2
 have HR := Shut.mk hR
 obtain ⟨l, hle⟩ : ∃ l, l = L.length := ⟨_, rfl⟩
 have HL := Shut.mk hle
 rw [← hle] at HSP hl4
 clear hm hf hR hn h' hl hre hnm hle hp
 cases ok with
 | false =>
  have HE : Shut (R = 0) := ⟨by rw [HR.out, if_neg (by simp)]⟩
  go_enter Tryz.func20, Tryz.ntmps20
  go_upto_region 1 with fail
  refine wp_shade (fun W => BX w W a n cap nx) (BX.new w a n cap nx 26) ?_
  intro W hg
  have HG := Shut.mk hg
  clear hg
  go_wp2_with fail
  refine (HSP.out _).mono ?_
  rintro e W1 ⟨sv, rfl, ho, hb1⟩
  obtain ⟨sa, sc, rfl⟩ := own_form9 ho
  have HG1 := Shut.mk (HG.out.below hb1)
  clear hb1 ho
  go_wp2_with fail
  go_ret
  exact ⟨by rw [HE.out]; rfl, HG1.out.bel⟩
 | true =>
  go_enter Tryz.func20, Tryz.ntmps20
  go_upto_region 1 with fail
  refine wp_shade (fun W => BX w W a n cap nx) (BX.new w a n cap nx 26) ?_
  intro W hg
  have HG := Shut.mk hg
  clear hg
  go_wp2_with fail
  refine (HSP.out _).mono ?_
  rintro e W1 ⟨sv, rfl, ho, hb1⟩
  obtain ⟨sa, sc, rfl⟩ := own_form9 ho
  have HG1 := Shut.mk (And.intro (HG.out.below hb1) (own_crow9 ho (by rw [tv_len]; exact HL.out)))
  have x0 := (HG1.out.1.box.2 0 _ rfl).1
  have x1 := (HG1.out.1.box.2 1 _ rfl).1
  clear hb1 ho HG HSP
  have HAT := Shut.mk (HTS.out W1 HG1.out.1.bel)
  rcases at_cases (nds rs) 1 with ⟨hat, _⟩ | ⟨i, _, hat, _⟩
  ·have HE : Shut (R = 0) := ⟨by rw [HR.out, if_neg (by rw [hat]; simp)]⟩
   rw [hat] at HAT
   clear hat
   go_wp2_with fail
   refine HAT.out.mono ?_
   rintro e W2 ⟨rfl, hb2⟩
   have HG2 := Shut.mk (HG1.out.1.below hb2)
   clear hb2
   go_wp2_with fail
   go_ret
   exact ⟨by rw [HE.out]; rfl, HG2.out.bel⟩
  ·have HRF : Shut (R = findF (nds rs) L 1) := ⟨by rw [HR.out, if_pos ⟨trivial, by rw [hat]; omega⟩]⟩
   rw [hat] at HAT
   have i2 : ¬ (i : Int) < 0 := by omega
   clear hat HR
   go_wp2_with fail
   refine HAT.out.mono ?_
   rintro e W2 ⟨rfl, hb2⟩
   have HG2 := Shut.mk (And.intro (HG1.out.1.below hb2) (HG1.out.2.stays hb2))
   clear hb2 x0 x1 HAT HG1
   go_wp2_with fail
   go_loopw [7, 8] (fun cv jv wr => ∃ (j : Nat) (c : Int), cv = .int .i64 c ∧ jv = .int .i64 j ∧ j ≤ l ∧ Shut (R = findF (nds rs) (L.drop j) c) ∧ Shut (BX w wr a n cap nx ∧ CRow wr sa (tv L))) (fun _ jv _ => l - (intOf jv).toNat)
   case atStart => exact ⟨0, 1, rfl, rfl, Nat.zero_le _, ⟨by rw [HRF.out]; rfl⟩, HG2⟩
   case round =>
    clear HG2 HRF
    obtain ⟨j, c, rfl, rfl, hj, HC, HG⟩ := hrel
    by_cases hlt : j < l
    ·have hjl : j < L.length := by have := HL.out; omega
     have j0 : (0 : Int) ≤ (j : Int) := by omega
     have j1 : (j : Int) < (l : Int) := by omega
     have HST := Shut.mk (HC.out.trans (findF_step (nds rs) L j c hjl))
     have HPT := Shut.mk (tv_get L j hjl)
     obtain ⟨x, hx⟩ : ∃ x, x = L.getD j ⟨#[]⟩ := ⟨_, rfl⟩
     rw [← hx] at HST HPT
     clear hx
     go_wp2_with fail
     go_loopw [9, 10] (fun zv kv wq => ∃ (k : Nat) (z : Int), zv = .int .i64 z ∧ kv = .int .i64 k ∧ k ≤ n ∧ Shut (z = ((nds rs).take k).foldl (kidS c x) 0) ∧ Shut (BX w wq a n cap nx ∧ CRow wq sa (tv L))) (fun _ kv _ => n - (intOf kv).toNat)
     case atStart => exact ⟨0, 0, rfl, rfl, Nat.zero_le _, ⟨by simp⟩, HG⟩
     case round =>
      clear HG
      obtain ⟨k, z, rfl, rfl, hk, HZ, HQ⟩ := hrel
      have x0 := (HQ.out.1.box.2 0 _ rfl).1
      have x1 := (HQ.out.1.box.2 1 _ rfl).1
      by_cases hkn : k < n
      ·have hkr : k < rs.length := by have := HM.out.2; omega
       have hkd : k < (nds rs).length := by rw [nds_len]; exact hkr
       have k0 : (0 : Int) ≤ (k : Int) := by omega
       have k1 : (k : Int) < (n : Int) := by omega
       have HSK := Shut.mk (kid_take (nds rs) c x k hkd)
       rw [← HZ.out, nds_at rs k hkr] at HSK
       obtain ⟨b, off, rfl, lb, hc⟩ := TR.nat (HM.out.1.below HQ.out.1.bel) (by omega)
       have e0 := (hc k hkr).1
       have e1 := (hc k hkr).2.1
       have e2 := (hc k hkr).2.2.1
       obtain ⟨pb, po, rfl, plt, hpc⟩ := HQ.out.2 (by rw [tv_len]; omega)
       have y0 := hpc j _ HPT.out
       have HND : Shut (∀ q, BX w (wr.drewN q) (some ⟨b, off, none⟩) n cap nx ∧ CRow (wr.drewN q) (some ⟨pb, po, none⟩) (tv L)) := ⟨fun q => ⟨HQ.out.1.below ⟨rfl, rfl, rfl, Nat.le_refl _, fun _ _ => rfl⟩, HQ.out.2.stays ⟨rfl, rfl, rfl, Nat.le_refl _, fun _ _ => rfl⟩⟩⟩
       clear hc hpc
       unfold kidS at HSK
       generalize rs[k] = r at *
       by_cases p1 : r.nd.parent = c
       ·have p1' : (r.nd.parent == c) = true := by simpa using p1
        by_cases p2 : r.nd.name = x
        ·have p2' : (r.nd.name.toList == x.toList) = true := by rw [p2]; simp
         by_cases p3 : z = 0
         ·have p3' : (z == 0) = true := by simpa using p3
          have HN : Shut (r.nd.id = ((nds rs).take (k + 1)).foldl (kidS c x) 0) := ⟨by
           have := HSK.out
           rw [if_pos ⟨p1, p2, p3⟩] at this
           exact this.symm⟩
          clear p1 p2 p3 HSK HZ HQ
          go_wp2_with fail
          go_quiet (fail)
          go_wp2_with fail
          go_roundw
          case rel => exact ⟨k + 1, r.nd.id, rfl, by go_num, by omega, HN, ⟨HND.out _⟩⟩
          case measure => simp [intOf]; omega
         ·have p3' : (z == 0) = false := by simpa using p3
          have HN : Shut (z = ((nds rs).take (k + 1)).foldl (kidS c x) 0) := ⟨by
           have := HSK.out
           rw [if_neg (fun q => p3 q.2.2)] at this
           exact this.symm⟩
          clear p1 p2 p3 HSK HZ HQ
          go_wp2_with fail
          go_quiet (fail)
          go_wp2_with fail
          go_roundw
          case rel => exact ⟨k + 1, z, rfl, by go_num, by omega, HN, ⟨HND.out _⟩⟩
          case measure => simp [intOf]; omega
        ·have p2' := text_eq p2
         have HN : Shut (z = ((nds rs).take (k + 1)).foldl (kidS c x) 0) := ⟨by
          have := HSK.out
          rw [if_neg (fun q => p2 q.2.1)] at this
          exact this.symm⟩
         clear p1 p2 HSK HZ HQ
         go_wp2_with fail
         go_quiet (fail)
         go_wp2_with fail
         go_roundw
         case rel => exact ⟨k + 1, z, rfl, by go_num, by omega, HN, ⟨HND.out _⟩⟩
         case measure => simp [intOf]; omega
       ·have p1' : (r.nd.parent == c) = false := by simpa using p1
        have HN : Shut (z = ((nds rs).take (k + 1)).foldl (kidS c x) 0) := ⟨by
         have := HSK.out
         rw [if_neg (fun q => p1 q.1)] at this
         exact this.symm⟩
        clear p1 HSK HZ HQ
        go_wp2_with fail
        go_quiet (fail)
        go_wp2_with fail
        go_roundw
        case rel => exact ⟨k + 1, z, rfl, by go_num, by omega, HN, ⟨HND.out _⟩⟩
        case measure => simp [intOf]; omega
      ·have k1 : ¬ (k : Int) < (n : Int) := by omega
       have hz : z = kidF (nds rs) c x := by
        rw [HZ.out, List.take_of_length_le (by rw [nds_len]; have := HM.out.2; omega)]
        rfl
       have hst := HST.out
       rw [← hz] at hst
       clear hz HST
       by_cases p3 : z = 0
       ·have p3' : (z == 0) = true := by simpa using p3
        have HE : Shut (R = 0) := ⟨by rw [hst, if_pos p3]⟩
        clear hst p3
        go_wp2_with fail
        go_ret
        exact ⟨by rw [HE.out]; rfl, HQ.out.1.bel⟩
       ·have p3' : (z == 0) = false := by simpa using p3
        have HN : Shut (R = findF (nds rs) (L.drop (j + 1)) z) := ⟨by rw [hst, if_neg p3]⟩
        clear hst p3
        go_wp2_with fail
        go_roundw
        case rel => exact ⟨j + 1, z, rfl, by go_num, by omega, HN, HQ⟩
        case measure => simp [intOf]; omega
    ·have j1 : ¬ (j : Int) < (l : Int) := by omega
     have HE : Shut (R = c) := ⟨by
      rw [HC.out, List.drop_eq_nil_of_le (by have := HL.out; omega)]
      rfl⟩
     go_wp2_with fail
     go_ret
     exact ⟨by rw [HE.out]; rfl, HG.out.1.bel⟩
end Go.Proofs.YtakhagkhngmpaaaGreat
/- TreU: . -/
namespace Go.Proofs.YtakhagkhngmpaaaGreat
set_option maxRecDepth 100000
open Go.RowKit
attribute [local go_sem ↓] Go.wp_at_zero Go.wp_at_succ
attribute [local irreducible] nodeOk treeOk atI
set_option maxHeartbeats 2000000 in
theorem specSchemaAt {w : World} {v : Value} {T : TM} {lo hi : Nat} (id : Int) (h : TSee w v T lo hi) (hf : NFit T) : Calls Tryz.prog 113 #[v, .int .i64 id] w fun e w' => e = .returned (.int .i64 (schemaAtX T id)) ∧ Below w.heap.size w w' := by
 have hl : T.nodes.length ≤ 1048576 := by unfold NFit at hf; omega
 have h' := h
 obtain ⟨a, cap, rs, rfl, hr, hm⟩ := h
 obtain ⟨n, hn⟩ : ∃ n, n = rs.length := ⟨_, rfl⟩
 rw [← hn] at h' ⊢
 have HTS := Shut.mk (fun W (hW : Below w.heap.size w W) (c : Int) => specAt c (h'.below hW) hl)
 have HTO := Shut.mk (fun W (hW : Below w.heap.size w W) => specTreeOk (h'.below hW) hf)
 obtain ⟨R, hR⟩ : ∃ R, R = schemaAtX T id := ⟨_, rfl⟩
 rw [← hR]
 unfold schemaAtX at hR
 obtain ⟨nodes, nx⟩ := T
 dsimp only at hr HTS HTO hR
 subst hr
 have HM := Shut.mk (And.intro hm hn)
 have hn9 : n ≤ 1048576 := by dsimp only at hl; rw [nds_len] at hl; omega
 have HR := Shut.mk hR
 clear hm hf hR hn h' hl
 cases hok : treeOk ⟨nds rs, nx⟩ with
 | false =>
  have HE : Shut (R = 0) := ⟨by rw [HR.out, if_neg (by rw [hok]; decide)]⟩
  rw [hok] at HTO
  clear hok
  go_enter Tryz.func113, Tryz.ntmps113
  go_upto_region 1 with fail
  refine wp_shade (fun W => BX w W a n cap nx) (BX.new w a n cap nx 26) ?_
  intro W hg
  have HG := Shut.mk hg
  have x0 := (hg.box.2 0 _ rfl).1
  have x1 := (hg.box.2 1 _ rfl).1
  clear hg
  go_wp2_with fail
  refine (HTO.out _ HG.out.bel).mono ?_
  rintro e W1 ⟨rfl, hb1⟩
  have HG1 := Shut.mk (HG.out.below hb1)
  clear hb1
  go_wp2_with fail
  go_ret
  exact ⟨by rw [HE.out]; rfl, HG1.out.bel⟩
 | true =>
  have HRR : Shut (R = schemaF (nds rs) 15 id) := ⟨by rw [HR.out, if_pos hok]⟩
  rw [hok] at HTO
  clear hok HR
  go_enter Tryz.func113, Tryz.ntmps113
  go_upto_region 1 with fail
  refine wp_shade (fun W => BX w W a n cap nx) (BX.new w a n cap nx 26) ?_
  intro W hg
  have HG := Shut.mk hg
  have x0 := (hg.box.2 0 _ rfl).1
  have x1 := (hg.box.2 1 _ rfl).1
  clear hg
  go_wp2_with fail
  refine (HTO.out _ HG.out.bel).mono ?_
  rintro e W1 ⟨rfl, hb1⟩
  have HG1 := Shut.mk (HG.out.below hb1)
  clear hb1 x0 x1 HG
  go_wp2_with fail
  go_loopw [1, 5] (fun iv mv wr => ∃ (m : Nat) (c : Int), iv = .int .i64 c ∧ mv = .int .i64 m ∧ m ≤ 15 ∧ Shut (R = schemaF (nds rs) (15 - m) c) ∧ Shut (BX w wr a n cap nx)) (fun _ mv _ => 15 - (intOf mv).toNat)
  case atStart => exact ⟨0, id, rfl, rfl, by omega, ⟨HRR.out⟩, HG1⟩
  case round =>
   clear HG1
   obtain ⟨m, c, rfl, rfl, hm15, hcl, HG⟩ := hrel
   by_cases hlt : m < 15
   ·have m1 : (m : Int) ≤ 14 := by omega
    obtain ⟨f, hf⟩ : ∃ f, f = 15 - (m + 1) := ⟨_, rfl⟩
    have hcl' := hcl.out
    rw [show 15 - m = f + 1 by omega] at hcl'
    have x0 := (HG.out.box.2 0 _ rfl).1
    have x1 := (HG.out.box.2 1 _ rfl).1
    have HAT := Shut.mk (HTS.out wr HG.out.bel c)
    rcases at_cases (nds rs) c with ⟨hat, hfn⟩ | ⟨i, hi, hat, hfn⟩
    ·have HE : Shut (R = 0) := ⟨by rw [hcl', schemaF_none hfn]⟩
     rw [hat] at HAT
     clear hcl' hcl hf hfn hat
     go_wp2_with fail
     refine HAT.out.mono ?_
     rintro e W6 ⟨rfl, hb6⟩
     have HG6 := Shut.mk (HG.out.below hb6)
     clear hb6
     go_wp2_with fail
     go_ret
     exact ⟨by rw [HE.out]; rfl, HG6.out.bel⟩
    ·have hir : i < rs.length := by rw [nds_len] at hi; exact hi
     have HNX : Shut (R = if rs[i].nd.schema ≠ 0 then rs[i].nd.schema else schemaF (nds rs) (15 - (m + 1)) rs[i].nd.parent) := ⟨by rw [hcl', schemaF_some hfn, nds_getD hir, ← hf]⟩
     rw [hat] at HAT
     have i0 : (0 : Int) ≤ (i : Int) := by omega
     have i1 : (i : Int) < (n : Int) := by have := HM.out.2; omega
     have i2 : ¬ (i : Int) < 0 := by omega
     clear hcl' hcl hf hfn hat hi
     go_wp2_with fail
     refine HAT.out.mono ?_
     rintro e W6 ⟨rfl, hb6⟩
     have HG6 := Shut.mk (HG.out.below hb6)
     clear hb6 x0 x1 HAT
     have x0 := (HG6.out.box.2 0 _ rfl).1
     obtain ⟨b, off, rfl, lb, hc⟩ := TR.nat (HM.out.1.below HG6.out.bel) (by omega)
     have e1 := (hc i hir).2.1
     have e4 := (hc i hir).2.2.2.2.1
     clear hc
     generalize rs[i].nd.parent = pp at *
     generalize rs[i].nd.schema = ss at *
     by_cases hs : ss = 0
     ·have hs' : (ss != 0) = false := by simpa using hs
      have HN2 : Shut (R = schemaF (nds rs) (15 - (m + 1)) pp) := ⟨by rw [HNX.out, if_neg (by simpa using hs)]⟩
      clear hs HNX
      go_wp2_with fail
      go_roundw
      case rel => exact ⟨m + 1, pp, rfl, by go_num, by omega, HN2, HG6⟩
      case measure => simp [intOf]; omega
     ·have hs' : (ss != 0) = true := by simpa using hs
      have HE : Shut (R = ss) := ⟨by rw [HNX.out, if_pos hs]⟩
      clear hs HNX
      go_wp2_with fail
      go_ret
      exact ⟨by rw [HE.out]; rfl, HG6.out.bel⟩
   ·have hm : m = 15 := by omega
    have HE : Shut (R = 0) := ⟨by rw [hcl.out, hm]; rfl⟩
    have m1 : ¬ (m : Int) ≤ 14 := by omega
    clear hm hcl
    go_wp2_with fail
    go_ret
    exact ⟨by rw [HE.out]; rfl, HG.out.bel⟩
end Go.Proofs.YtakhagkhngmpaaaGreat
/- TreW: . -/
namespace Go.Proofs.YtakhagkhngmpaaaGreat
set_option maxRecDepth 100000
open Go.RowKit
attribute [local go_sem ↓] Go.wp_at_zero Go.wp_at_succ
attribute [local irreducible] nodeOk treeOk atI belowF
def belowL (all ns : List NM) (id : Int) : List Int := (ns.filter fun n => belowF all 15 n.id id).map NM.id
theorem belowL_snoc (all ns : List NM) (n : NM) (id : Int) : belowL all (ns ++ [n]) id = belowL all ns id ++ if belowF all 15 n.id id = true then [n.id] else [] := by
 unfold belowL
 rw [List.filter_append, List.map_append]
 congr 1
 cases h : belowF all 15 n.id id <;> simp [h]
theorem belowL_len (all ns : List NM) (id : Int) : (belowL all ns id).length ≤ ns.length := by
 unfold belowL
 rw [List.length_map]
 exact List.length_filter_le _ _
def belowX (T : TM) (id : Int) : List Int := if treeOk T = true ∧ 0 ≤ atI T.nodes id then belowL T.nodes T.nodes id else []
theorem ics_snoc9 (xs : List Int) (x : Int) : ics xs ++ [.int .i64 x] = ics (xs ++ [x]) := by simp [ics]
theorem own_wider9 {w : World} {B C n sz : Nat} {t : TypeId} {v : Value} {L : List Value} (h : w.ownsRow B t sz v n L) (hC : C ≤ B) : w.ownsRow C t sz v n L := by
 obtain ⟨h1, h | ⟨g, cap, cur, e, hB, rest⟩⟩ := h
 ·exact ⟨h1, .inl h⟩
 ·exact ⟨h1, .inr ⟨g, cap, cur, e, Nat.le_trans hC hB, rest⟩⟩
theorem BX.grown {w W W' : World} {a : Option Addr} {n cap : Nat} {nx : Int} {q : Option Nat} (h : BX w W a n cap nx) (hg : W.grownBy W' q) (hq : ∀ k, q = some k → w.heap.size + 1 ≤ k) : BX w W' a n cap nx := by
 have hb : Below (w.heap.size + 1) W W' := (Below.refl _ _).grown hg (by have := h.box.1; omega) hq
 exact ⟨h.bel.trans (hb.mono (by omega)), h.box.below hb (by omega)⟩
theorem belowL_zero (all ns : List NM) (id : Int) : belowL all (ns.take 0) id = [] := by simp [belowL]
attribute [local irreducible] belowL
set_option maxHeartbeats 4000000 in
theorem specBelowOf {w : World} {v : Value} {T : TM} {lo hi : Nat} (id : Int) (h : TSee w v T lo hi) (hf : NFit T) : Calls Tryz.prog 21 #[v, .int .i64 id] w fun e w' => IPost (belowX T id) w e w' := by
 have hl : T.nodes.length ≤ 1048576 := by unfold NFit at hf; omega
 have h' := h
 obtain ⟨a, cap, rs, rfl, hr, hm⟩ := h
 obtain ⟨n, hn⟩ : ∃ n, n = rs.length := ⟨_, rfl⟩
 rw [← hn] at h' ⊢
 have HTS := Shut.mk (fun W (hW : Below w.heap.size w W) (c : Int) => specAt c (h'.below hW) hl)
 have HTB := Shut.mk (fun W (hW : Below w.heap.size w W) (c : Int) => specBelow c id (h'.below hW) hf)
 have HTO := Shut.mk (fun W (hW : Below w.heap.size w W) => specTreeOk (h'.below hW) hf)
 obtain ⟨R, hR⟩ : ∃ R, R = belowX T id := ⟨_, rfl⟩
 rw [← hR]
 unfold belowX at hR
 obtain ⟨nodes, nx⟩ := T
 dsimp only at hr HTS HTB HTO hR
 subst hr
 have HM := Shut.mk (And.intro hm hn)
 have hn9 : n ≤ 1048576 := by dsimp only at hl; rw [nds_len] at hl; omega
 have HR := Shut.mk hR
 clear hm hf hR hn h' hl
 cases hok : treeOk ⟨nds rs, nx⟩ with
 | false =>
  have HE : Shut (R = []) := ⟨by rw [HR.out, if_neg (by rw [hok]; simp)]⟩
  rw [hok] at HTO
  clear hok
  go_enter Tryz.func21, Tryz.ntmps21
  go_upto_region 1 with fail
  refine wp_shade (fun W => BX w W a n cap nx) (BX.new w a n cap nx 26) ?_
  intro W hg
  have HG := Shut.mk hg
  have x0 := (hg.box.2 0 _ rfl).1
  have x1 := (hg.box.2 1 _ rfl).1
  clear hg
  go_wp2_with fail
  refine (HTO.out _ HG.out.bel).mono ?_
  rintro e W1 ⟨rfl, hb1⟩
  have HG1 := Shut.mk (HG.out.below hb1)
  clear hb1
  go_wp2_with fail
  go_ret
  exact ⟨_, rfl, own_ians (n := 0) (by rw [HE.out, List.length_nil]) (by rw [HE.out]; exact World.ownsRow_made W1 #[] 0 HG1.out.bel.size (by decide) rfl), HG1.out.bel.alloc HG1.out.bel.size _⟩
 | true =>
  rw [hok] at HTO
  rcases at_cases (nds rs) id with ⟨hat, _⟩ | ⟨i0, hi0, hat, _⟩
  ·have HE : Shut (R = []) := ⟨by rw [HR.out, if_neg (by rw [hat]; simp)]⟩
   clear hok
   go_enter Tryz.func21, Tryz.ntmps21
   go_upto_region 1 with fail
   refine wp_shade (fun W => BX w W a n cap nx) (BX.new w a n cap nx 26) ?_
   intro W hg
   have HG := Shut.mk hg
   have x0 := (hg.box.2 0 _ rfl).1
   have x1 := (hg.box.2 1 _ rfl).1
   clear hg
   go_wp2_with fail
   refine (HTO.out _ HG.out.bel).mono ?_
   rintro e W1 ⟨rfl, hb1⟩
   have HG1 := Shut.mk (HG.out.below hb1)
   clear hb1 x0 x1 HG
   go_upto_region 4 with fail
   refine wp_shade (fun W => BX w W a n cap nx ∧ W.ownsRow (w.heap.size + 1) 3 1 (.slice (some ⟨W1.heap.size, 0, none⟩) 0 0) 0 []) ⟨HG1.out.below ((Below.refl _ _).alloc (Nat.le_refl _) _), World.ownsRow_made W1 #[] 0 (by have := HG1.out.box.1; omega) (by decide) rfl⟩ ?_
   rintro W2 ⟨hg2, ho2⟩
   have HG2 := Shut.mk (And.intro hg2 ho2)
   have x0 := (hg2.box.2 0 _ rfl).1
   have x1 := (hg2.box.2 1 _ rfl).1
   have HAT := Shut.mk (HTS.out W2 hg2.bel id)
   rw [hat] at HAT
   clear hg2 ho2 HG1 hat
   go_wp2_with fail
   refine HAT.out.mono ?_
   rintro e W3 ⟨rfl, hb3⟩
   have HG3 := Shut.mk (And.intro (HG2.out.1.below hb3) (HG2.out.2.kept (row := none) ⟨hb3.os, hb3.tape, hb3.output, hb3.size, fun k hk _ => hb3.block k hk⟩ (Classical.em _)))
   clear hb3
   go_wp2_with fail
   go_ret
   exact ⟨_, rfl, own_ians (n := 0) (by rw [HE.out, List.length_nil]) (by rw [HE.out]; exact own_wider9 HG3.out.2 (by omega)), HG3.out.1.bel⟩
  ·have HRR : Shut (R = belowL (nds rs) (nds rs) id) := ⟨by rw [HR.out, if_pos ⟨hok, by omega⟩]⟩
   obtain ⟨t0, ht0, hty0, hty1, hty2⟩ := info_parts infoIntG
   clear hok HR
   go_enter Tryz.func21, Tryz.ntmps21
   go_upto_region 1 with fail
   refine wp_shade (fun W => BX w W a n cap nx) (BX.new w a n cap nx 26) ?_
   intro W hg
   have HG := Shut.mk hg
   have x0 := (hg.box.2 0 _ rfl).1
   have x1 := (hg.box.2 1 _ rfl).1
   clear hg
   go_wp2_with fail
   refine (HTO.out _ HG.out.bel).mono ?_
   rintro e W1 ⟨rfl, hb1⟩
   have HG1 := Shut.mk (HG.out.below hb1)
   clear hb1 x0 x1 HG
   go_upto_region 4 with fail
   refine wp_shade (fun W => BX w W a n cap nx ∧ W.ownsRow (w.heap.size + 1) 3 1 (.slice (some ⟨W1.heap.size, 0, none⟩) 0 0) 0 []) ⟨HG1.out.below ((Below.refl _ _).alloc (Nat.le_refl _) _), World.ownsRow_made W1 #[] 0 (by have := HG1.out.box.1; omega) (by decide) rfl⟩ ?_
   rintro W2 ⟨hg2, ho2⟩
   have HG2 := Shut.mk (And.intro hg2 ho2)
   have x0 := (hg2.box.2 0 _ rfl).1
   have x1 := (hg2.box.2 1 _ rfl).1
   have HAT := Shut.mk (HTS.out W2 hg2.bel id)
   rw [hat] at HAT
   have i2 : ¬ (i0 : Int) < 0 := by omega
   clear hg2 ho2 HG1 hat
   go_wp2_with fail
   refine HAT.out.mono ?_
   rintro e W3 ⟨rfl, hb3⟩
   have HG3 := Shut.mk (And.intro (HG2.out.1.below hb3) (HG2.out.2.kept (row := none) ⟨hb3.os, hb3.tape, hb3.output, hb3.size, fun k hk _ => hb3.block k hk⟩ (Classical.em _)))
   clear hb3 x0 x1 HG2 HAT
   have x0 := (HG3.out.1.box.2 0 _ rfl).1
   go_wp2_with fail
   go_loopw [5, 6] (fun ov iv wr => ∃ (k l : Nat) (vv : Value), vv = ov ∧ iv = .int .i64 k ∧ k ≤ n ∧ l ≤ k ∧ Shut (l = (belowL (nds rs) ((nds rs).take k) id).length) ∧ Shut (BX w wr a n cap nx ∧ wr.ownsRow (w.heap.size + 1) 3 1 vv l (ics (belowL (nds rs) ((nds rs).take k) id)))) (fun _ iv _ => n - (intOf iv).toNat)
   case atStart => exact ⟨0, 0, _, rfl, rfl, Nat.zero_le _, Nat.le_refl _, ⟨by rw [belowL_zero, List.length_nil]⟩, ⟨by rw [belowL_zero]; exact HG3.out⟩⟩
   case round =>
    clear HG3 x0
    obtain ⟨k, l, ov, rfl, rfl, hk, hlk, HL, HG⟩ := hrel
    obtain ⟨wo, rfl⟩ : ∃ wo, wo = wr := ⟨_, rfl⟩
    have x0 := (HG.out.1.box.2 0 _ rfl).1
    have x1 := (HG.out.1.box.2 1 _ rfl).1
    by_cases hlt : k < n
    ·have hkr : k < rs.length := by have := HM.out.2; omega
     have k0 : (0 : Int) ≤ (k : Int) := by omega
     have k1 : (k : Int) < (n : Int) := by omega
     obtain ⟨b, off, rfl, lb, hc⟩ := TR.nat (HM.out.1.below HG.out.1.bel) (by omega)
     have HC := Shut.mk (hc k hkr)
     have e0 := (hc k hkr).1
     have hst : (nds rs).take (k + 1) = (nds rs).take k ++ [rs[k].nd] := by
      rw [List.take_succ_eq_append_getElem (by rw [nds_len]; exact hkr), nds_at rs k hkr]
     have HBC := Shut.mk (fun W (hW : Below wo.heap.size wo W) => HTB.out W (HG.out.1.bel.trans (hW.mono HG.out.1.bel.size)) rs[k].nd.id)
     have hbs := belowL_snoc (nds rs) ((nds rs).take k) rs[k].nd id
     rw [← hst] at hbs
     have HBS := Shut.mk hbs
     clear hc hst hbs
     generalize rs[k] = r at *
     have hwl : w.heap.size < wo.heap.size := HG.out.1.box.1
     cases hbf : belowF (nds rs) 15 r.nd.id id with
     | false =>
      rw [hbf] at HBC HBS
      have HB' : Shut (belowL (nds rs) ((nds rs).take (k + 1)) id = belowL (nds rs) ((nds rs).take k) id) := ⟨by rw [HBS.out]; simp⟩
      clear hbf HBS
      go_wp2_with fail
      go_region_held3 (fun w' => w'.cell? ⟨w.heap.size, 0, none⟩ = some (.slice (some ⟨b, off, none⟩) n cap) ∧ w'.cell? ⟨w.heap.size, 1, none⟩ = some (.int .i64 nx) ∧ w'.cell? ⟨b, off + k * 9, none⟩ = some (.int .i64 r.nd.id))
       (first | go_keep | (refine ⟨?_, ?_, ?_⟩ <;> first | (rw [hb9.cell (by exact hwl)]; simp [*]; done) | (rw [hb9.cell (by exact lb)]; simp [*]; done)))
       ((go_at_call 77; refine (HBC.out _ (by first | exact Below.refl _ _ | exact Below.drew (Below.refl _ _))).mono ?_; rintro e w9 ⟨rfl, hb9⟩))
      all_goals
       have hb : Below wo.heap.size wo w9 := by first | exact (Below.drew (Below.refl _ _)).trans hb9 | exact hb9
       have HGN := Shut.mk (And.intro (HG.out.1.below hb) (HG.out.2.kept (row := none) ⟨hb.os, hb.tape, hb.output, hb.size, fun k hk _ => hb.block k hk⟩ (Classical.em _)))
       clear hb hb9
       go_wp2_with fail
       go_roundw
       case rel => exact ⟨k + 1, l, ov, rfl, by go_num, by omega, by omega, ⟨by rw [HB'.out]; exact HL.out⟩, ⟨by rw [HB'.out]; exact HGN.out⟩⟩
       case measure => simp [intOf]; omega
     | true =>
      rw [hbf] at HBC HBS
      have HB' : Shut (belowL (nds rs) ((nds rs).take (k + 1)) id = belowL (nds rs) ((nds rs).take k) id ++ [r.nd.id]) := ⟨by rw [HBS.out]; simp⟩
      clear hbf HBS
      go_wp2_with fail
      go_region_held3 (fun w' => w'.cell? ⟨w.heap.size, 0, none⟩ = some (.slice (some ⟨b, off, none⟩) n cap) ∧ w'.cell? ⟨w.heap.size, 1, none⟩ = some (.int .i64 nx) ∧ w'.cell? ⟨b, off + k * 9, none⟩ = some (.int .i64 r.nd.id))
       (first | go_keep | (refine ⟨?_, ?_, ?_⟩ <;> first | (rw [hb9.cell (by exact hwl)]; simp [*]; done) | (rw [hb9.cell (by exact lb)]; simp [*]; done)))
       ((go_at_call 77; refine (HBC.out _ (by first | exact Below.refl _ _ | exact Below.drew (Below.refl _ _))).mono ?_; rintro e w9 ⟨rfl, hb9⟩))
      all_goals
       have hb : Below wo.heap.size wo w9 := by first | exact (Below.drew (Below.refl _ _)).trans hb9 | exact hb9
       have HGN := Shut.mk (And.intro (HG.out.1.below hb) (HG.out.2.kept (row := none) ⟨hb.os, hb.tape, hb.output, hb.size, fun k hk _ => hb.block k hk⟩ (Classical.em _)))
       have z0 := (HGN.out.1.box.2 0 _ rfl).1
       have f0 := ((HC.out.below hb lb)).1
       have hs9 : w.heap.size + 1 ≤ w9.heap.size := by have := HGN.out.1.box.1; omega
       have ho9 := HGN.out.2
       clear hb hb9 x0 x1 e0
       go_wp2_with (at_builtin; refine wpList_append_own _ rfl _ _ 37 rfl (w.heap.size + 1) 3 t0 (.int .i64 0) 1 8 Tryz.underlying37 ht0 hty0 hty1 hty2 rfl (by decide) _ _ _ rfl (ho9.alloc _) ⟨w9.heap.size, 0, none⟩ 1 1 [.int .i64 r.nd.id] rfl rfl (cell_one_new _ _ _) ?c2 ?c3 ?c4 ?c5 ?_)
       case c2 => first | rfl | (intro u hu; simp at hu; subst hu; rfl)
       case c3 => unfold maxLen; omega
       case c4 => omega
       case c5 => first | omega | (simp; omega)
       intro v' w10 ho10 hgrow _
       rw [ics_snoc9, ← HB'.out] at ho10
       have HGZ := Shut.mk (And.intro ((HGN.out.1.below ((Below.refl _ _).alloc (Nat.le_refl _) _)).grown hgrow (fun j hj => (ho9.lt j hj).1)) ho10)
       clear hgrow ho10 ho9
       go_wp2_with fail
       go_roundw
       case rel => exact ⟨k + 1, l + 1, v', rfl, by go_num, by omega, by omega, ⟨by rw [HB'.out, List.length_append, List.length_singleton, ← HL.out]⟩, HGZ⟩
       case measure => simp [intOf]; omega
    ·have k1 : ¬ (k : Int) < (n : Int) := by omega
     have hall : (nds rs).take k = nds rs := List.take_of_length_le (by rw [nds_len]; have := HM.out.2; omega)
     have ho := HG.out.2
     have hlen := HL.out
     rw [hall, ← HRR.out] at ho
     rw [hall, ← HRR.out] at hlen
     have HF := Shut.mk (And.intro hlen ho)
     clear hall ho hlen
     go_wp2_with fail
     go_ret
     exact ⟨ov, rfl, own_ians HF.out.1.symm (own_wider9 HF.out.2 (by omega)), HG.out.1.bel⟩
end Go.Proofs.YtakhagkhngmpaaaGreat
/- TreX: . -/
namespace Go.Proofs.YtakhagkhngmpaaaGreat
set_option maxRecDepth 100000
open Go.RowKit
attribute [local go_sem ↓] Go.wp_at_zero Go.wp_at_succ
def usedL (ns : List NM) : List Int → Int
 | [] => 0
 | x :: xs => (ns.getD (atI ns x).toNat default).len + usedL ns xs
theorem usedL_append (ns : List NM) (xs ys : List Int) : usedL ns (xs ++ ys) = usedL ns xs + usedL ns ys := by
 induction xs with
 | nil => simp [usedL]
 | cons x xs ih => simp only [List.cons_append, usedL, ih]; omega
theorem usedL_take (ns : List NM) (xs : List Int) (k : Nat) (h : k < xs.length) : usedL ns (xs.take (k + 1)) = usedL ns (xs.take k) + (ns.getD (atI ns xs[k]).toNat default).len := by
 rw [List.take_succ_eq_append_getElem h, usedL_append]
 simp [usedL]
def usedX (T : TM) (id : Int) : Int := usedL T.nodes (belowX T id)
theorem fileOk_len {n : NM} (h : fileOk n = true) : 0 ≤ n.len ∧ n.len ≤ 1000 := by
 unfold fileOk at h
 simp only [Bool.and_eq_true, beq_iff_eq, decide_eq_true_eq, List.all_eq_true] at h
 obtain ⟨⟨⟨_, h5⟩, h6⟩, h7⟩ := h
 have := (sumP_ok h5).1
 omega
theorem dirOk_len {n : NM} (h : dirOk n = true) : n.len = 0 := by
 unfold dirOk at h
 simp only [Bool.and_eq_true, beq_iff_eq] at h
 exact h.1.1.2
theorem nodeOk_len {T : TM} {i : Nat} (h : nodeOk T i = true) : 0 ≤ (T.nodes.getD i default).len ∧ (T.nodes.getD i default).len ≤ 1000 := by
 unfold nodeOk at h
 simp only [Bool.and_eq_true] at h
 have h3 := h.1.2
 split at h3
 ·have := dirOk_len h3; omega
 ·exact fileOk_len h3
theorem treeOk_node {T : TM} (h : treeOk T = true) {i : Nat} (hi : i < T.nodes.length) : nodeOk T i = true := by
 unfold treeOk at h
 simp only [Bool.and_eq_true, List.all_eq_true] at h
 exact h.2 i (List.mem_range.2 hi)
theorem treeOk_14 {T : TM} (h : treeOk T = true) : T.nodes.length ≤ 14 := by
 unfold treeOk at h
 simp only [Bool.and_eq_true, decide_eq_true_eq] at h
 exact h.1.1.2
theorem belowX_mem {T : TM} {id x : Int} (h : x ∈ belowX T id) : treeOk T = true ∧ ∃ n ∈ T.nodes, n.id = x := by
 unfold belowX at h
 split at h
 ·rename_i hc
  refine ⟨hc.1, ?_⟩
  unfold belowL at h
  obtain ⟨n, hn, rfl⟩ := List.mem_map.1 h
  exact ⟨n, (List.mem_filter.1 hn).1, rfl⟩
 ·simp at h
theorem belowX_at {T : TM} {id x : Int} (h : x ∈ belowX T id) : ∃ i, i < T.nodes.length ∧ atI T.nodes x = (i : Int) ∧ 0 ≤ (T.nodes.getD i default).len ∧ (T.nodes.getD i default).len ≤ 1000 := by
 obtain ⟨hok, n, hn, hid⟩ := belowX_mem h
 rcases at_cases T.nodes x with ⟨_, hno⟩ | ⟨i, hi, hat, _⟩
 ·have := List.findIdx?_eq_none_iff.1 hno n hn
  simp [hid] at this
 ·exact ⟨i, hi, hat, nodeOk_len (treeOk_node hok hi)⟩
theorem belowX_len (T : TM) (id : Int) : (belowX T id).length ≤ 14 := by
 unfold belowX
 split
 ·rename_i hc
  have := belowL_len T.nodes T.nodes id
  have := treeOk_14 hc.1
  omega
 ·simp
attribute [local irreducible] nodeOk treeOk atI belowF belowL belowX
set_option maxHeartbeats 4000000 in
theorem specUsedBelow {w : World} {v : Value} {T : TM} {lo hi : Nat} (id : Int) (h : TSee w v T lo hi) (hf : NFit T) : Calls Tryz.prog 23 #[v, .int .i64 id] w fun e w' => e = .returned (.int .i64 (usedX T id)) ∧ Below w.heap.size w w' := by
 have hl : T.nodes.length ≤ 1048576 := by unfold NFit at hf; omega
 have h' := h
 obtain ⟨a, cap, rs, rfl, hr, hm⟩ := h
 obtain ⟨n, hn⟩ : ∃ n, n = rs.length := ⟨_, rfl⟩
 rw [← hn] at h' ⊢
 have HTS := Shut.mk (fun W (hW : Below w.heap.size w W) (c : Int) => specAt c (h'.below hW) hl)
 have HBO := Shut.mk (fun W (hW : Below w.heap.size w W) => specBelowOf id (h'.below hW) hf)
 obtain ⟨R, hR⟩ : ∃ R, R = usedX T id := ⟨_, rfl⟩
 rw [← hR]
 unfold usedX at hR
 have HAT := Shut.mk (fun x (hx : x ∈ belowX T id) => belowX_at hx)
 have hbl := belowX_len T id
 obtain ⟨B, hB⟩ : ∃ B, B = belowX T id := ⟨_, rfl⟩
 rw [← hB] at HBO HAT hbl hR
 obtain ⟨nodes, nx⟩ := T
 dsimp only at hr HTS HBO hR HAT
 subst hr
 have HM := Shut.mk (And.intro hm hn)
 have hn9 : n ≤ 1048576 := by dsimp only at hl; rw [nds_len] at hl; omega
 have HR := Shut.mk hR
 obtain ⟨l, hle⟩ : ∃ l, l = B.length := ⟨_, rfl⟩
 have HL := Shut.mk hle
 rw [← hle] at hbl
 clear hm hf hR hn h' hl hB hle
 go_enter Tryz.func23, Tryz.ntmps23
 go_upto_region 1 with fail
 refine wp_shade (fun W => BX w W a n cap nx) (BX.new w a n cap nx 26) ?_
 intro W hg
 have HG := Shut.mk hg
 have x0 := (hg.box.2 0 _ rfl).1
 have x1 := (hg.box.2 1 _ rfl).1
 clear hg
 go_wp2_with fail
 refine (HBO.out _ HG.out.bel).mono ?_
 rintro e W1 ⟨bv, rfl, hia, hb1⟩
 obtain ⟨ba', bc, rfl, _, hq⟩ := hia
 have hrow : CRow W1 ba' (ics B) := by
  rcases hq with e | ⟨g, rfl, _, _, hw⟩
  ·rw [e]; intro h; simp [ics] at h
  ·exact hw.crow
 have HG1 := Shut.mk (And.intro (HG.out.below hb1) hrow)
 rw [← HL.out]
 clear hb1 hq hrow x0 x1 HG
 go_wp2_with fail
 go_loopw [6, 7] (fun sv iv wr => ∃ (k : Nat) (z : Int), sv = .int .i64 z ∧ iv = .int .i64 k ∧ k ≤ l ∧ 0 ≤ z ∧ z ≤ 1000 * k ∧ Shut (z = usedL (nds rs) (B.take k)) ∧ Shut (BX w wr a n cap nx ∧ CRow wr ba' (ics B))) (fun _ iv _ => l - (intOf iv).toNat)
 case atStart => exact ⟨0, 0, rfl, rfl, Nat.zero_le _, by omega, by omega, ⟨by simp [usedL]⟩, HG1⟩
 case round =>
  clear HG1
  obtain ⟨k, z, rfl, rfl, hk, hz0, hz1, HZ, HG⟩ := hrel
  by_cases hlt : k < l
  ·have hkb : k < B.length := by have := HL.out; omega
   have k0 : (0 : Int) ≤ (k : Int) := by omega
   have k1 : (k : Int) < (l : Int) := by omega
   have x0 := (HG.out.1.box.2 0 _ rfl).1
   have x1 := (HG.out.1.box.2 1 _ rfl).1
   have hwl : w.heap.size < wr.heap.size := HG.out.1.box.1
   obtain ⟨bb, bo, rfl, blt, hbc⟩ := HG.out.2 (by rw [ics_len]; omega)
   have hx : B[k] ∈ B := List.getElem_mem hkb
   have y0 := hbc k (.int .i64 B[k]) (by simp [ics, hkb])
   obtain ⟨i, hi, hat, hn0, hn1⟩ := HAT.out B[k] hx
   have hir : i < rs.length := by rw [nds_len] at hi; exact hi
   have hst := usedL_take (nds rs) B k hkb
   rw [hat, Int.toNat_natCast, nds_getD hir] at hst
   rw [nds_getD hir] at hn0 hn1
   have HST := Shut.mk hst
   have i0 : (0 : Int) ≤ (i : Int) := by omega
   have i1 : (i : Int) < (n : Int) := by have := HM.out.2; omega
   obtain ⟨b, off, rfl, lb, hc⟩ := TR.nat (HM.out.1.below HG.out.1.bel) (by omega)
   have e6 := (hc i hir).2.2.2.2.2.2.1
   have HCL := Shut.mk (fun W (hW : Below wr.heap.size wr W) => HTS.out W (HG.out.1.bel.trans (hW.mono HG.out.1.bel.size)) B[k])
   rw [hat] at HCL
   have hwz : IntKind.i64.wrap (z + rs[i].nd.len) = z + rs[i].nd.len := IntWalk.i64_in _ ⟨by omega, by omega⟩
   clear hbc hc hst hat hi hx
   generalize rs[i].nd.len = q at *
   generalize B[k] = x at *
   go_wp2_with fail
   go_region_held3 (fun w' => w'.cell? ⟨w.heap.size, 0, none⟩ = some (.slice (some ⟨b, off, none⟩) n cap) ∧ w'.cell? ⟨w.heap.size, 1, none⟩ = some (.int .i64 nx) ∧ w'.cell? ⟨bb, bo + k, none⟩ = some (.int .i64 x) ∧ w'.cell? ⟨b, off + i * 9 + 6, none⟩ = some (.int .i64 q))
    (first | go_keep | (refine ⟨?_, ?_, ?_, ?_⟩ <;> first | (rw [hb9.cell (by exact hwl)]; simp [*]; done) | (rw [hb9.cell (by exact lb)]; simp [*]; done) | (rw [hb9.cell (by exact blt)]; simp [*]; done)))
    ((go_at_call 67; refine (HCL.out _ (by first | exact Below.refl _ _ | exact Below.drew (Below.refl _ _))).mono ?_; rintro e w9 ⟨rfl, hb9⟩))
   all_goals
    have hb : Below wr.heap.size wr w9 := by first | exact (Below.drew (Below.refl _ _)).trans hb9 | exact hb9
    have HGN := Shut.mk (And.intro (HG.out.1.below hb) (HG.out.2.stays hb))
    clear hb hb9
    go_wp2_with fail
    go_roundw
    case rel => exact ⟨k + 1, z + q, rfl, by go_num, by omega, by omega, by push_cast; omega, ⟨by rw [HST.out, HZ.out]⟩, HGN⟩
    case measure => simp [intOf]; omega
  ·have k1 : ¬ (k : Int) < (l : Int) := by omega
   have HE : Shut (R = z) := ⟨by rw [HR.out, HZ.out, List.take_of_length_le (by have := HL.out; omega)]⟩
   go_wp2_with fail
   go_ret
   exact ⟨by rw [HE.out]; rfl, HG.out.1.bel⟩
end Go.Proofs.YtakhagkhngmpaaaGreat
/- TreY: . -/
namespace Go.Proofs.YtakhagkhngmpaaaGreat
set_option maxRecDepth 100000
open Go.RowKit
attribute [local go_sem ↓] Go.wp_at_zero Go.wp_at_succ
def roomF (T : TM) (m : Int) : Nat → Nat → Int → Bool
 | 0, _, _ => false
 | f + 1, st, id => match T.nodes.findIdx? (fun n => n.id == id) with
  | none => decide (0 < st)
  | some k => if (T.nodes.getD k default).dir = true ∧ 0 < (T.nodes.getD k default).quota ∧ (T.nodes.getD k default).quota - usedX T id < m then false else roomF T m f (st + 1) (T.nodes.getD k default).parent
theorem roomF_none {T : TM} {m c : Int} {f st : Nat} (h : T.nodes.findIdx? (fun n => n.id == c) = none) : roomF T m (f + 1) st c = decide (0 < st) := by
 conv => lhs; unfold roomF
 rw [h]
theorem roomF_some {T : TM} {m c : Int} {f st i : Nat} (h : T.nodes.findIdx? (fun n => n.id == c) = some i) : roomF T m (f + 1) st c = if (T.nodes.getD i default).dir = true ∧ 0 < (T.nodes.getD i default).quota ∧ (T.nodes.getD i default).quota - usedX T c < m then false else roomF T m f (st + 1) (T.nodes.getD i default).parent := by
 conv => lhs; unfold roomF
 rw [h]
def roomX (T : TM) (id m : Int) : Bool := if treeOk T = true then roomF T m 15 0 id else false
theorem nodeOk_quota {T : TM} {i : Nat} (h : nodeOk T i = true) (hd : (T.nodes.getD i default).dir = true) : 0 ≤ (T.nodes.getD i default).quota ∧ (T.nodes.getD i default).quota ≤ 1000 := by
 unfold nodeOk at h
 simp only [Bool.and_eq_true] at h
 have h3 := h.1.2
 rw [if_pos hd] at h3
 unfold dirOk at h3
 simp only [Bool.and_eq_true] at h3
 exact inI_iff.1 h3.1.1.1.2
theorem usedL_le {ns : List NM} {xs : List Int} (h : ∀ x ∈ xs, 0 ≤ (ns.getD (atI ns x).toNat default).len ∧ (ns.getD (atI ns x).toNat default).len ≤ 1000) : 0 ≤ usedL ns xs ∧ usedL ns xs ≤ 1000 * xs.length := by
 induction xs with
 | nil => simp [usedL]
 | cons x xs ih =>
  have h1 := ih (fun y hy => h y (by simp [hy]))
  have h2 := h x (by simp)
  simp only [usedL, List.length_cons]
  push_cast
  omega
theorem usedX_le (T : TM) (id : Int) : 0 ≤ usedX T id ∧ usedX T id ≤ 14000 := by
 unfold usedX
 have h := usedL_le (ns := T.nodes) (xs := belowX T id) (fun x hx => by
  obtain ⟨i, _, hat, h1⟩ := belowX_at hx
  rw [hat, Int.toNat_natCast]; exact h1)
 have := belowX_len T id
 omega
attribute [local irreducible] nodeOk treeOk atI belowF belowL belowX usedX
set_option maxHeartbeats 8000000 in
theorem specRoomFor {w : World} {v : Value} {T : TM} {lo hi : Nat} (id m : Int) (h : TSee w v T lo hi) (hf : NFit T) : Calls Tryz.prog 114 #[v, .int .i64 id, .int .i64 m] w fun e w' => e = .returned (.bool (roomX T id m)) ∧ Below w.heap.size w w' := by
 have hl : T.nodes.length ≤ 1048576 := by unfold NFit at hf; omega
 have h' := h
 obtain ⟨a, cap, rs, rfl, hr, hm⟩ := h
 obtain ⟨n, hn⟩ : ∃ n, n = rs.length := ⟨_, rfl⟩
 rw [← hn] at h' ⊢
 have HTS := Shut.mk (fun W (hW : Below w.heap.size w W) (c : Int) => specAt c (h'.below hW) hl)
 have HUS := Shut.mk (fun W (hW : Below w.heap.size w W) (c : Int) => specUsedBelow c (h'.below hW) hf)
 have HTO := Shut.mk (fun W (hW : Below w.heap.size w W) => specTreeOk (h'.below hW) hf)
 obtain ⟨R, hR⟩ : ∃ R, R = roomX T id m := ⟨_, rfl⟩
 rw [← hR]
 unfold roomX at hR
 obtain ⟨nodes, nx⟩ := T
 dsimp only at hr HTS HUS HTO hR
 subst hr
 have HM := Shut.mk (And.intro hm hn)
 have hn9 : n ≤ 1048576 := by dsimp only at hl; rw [nds_len] at hl; omega
 have HR := Shut.mk hR
 clear hm hf hR hn h' hl
 cases hok : treeOk ⟨nds rs, nx⟩ with
 | false =>
  have HE : Shut (R = false) := ⟨by rw [HR.out, if_neg (by rw [hok]; decide)]⟩
  rw [hok] at HTO
  clear hok
  go_enter Tryz.func114, Tryz.ntmps114
  go_upto_region 1 with fail
  refine wp_shade (fun W => BX w W a n cap nx) (BX.new w a n cap nx 26) ?_
  intro W hg
  have HG := Shut.mk hg
  have x0 := (hg.box.2 0 _ rfl).1
  have x1 := (hg.box.2 1 _ rfl).1
  clear hg
  go_wp2_with fail
  refine (HTO.out _ HG.out.bel).mono ?_
  rintro e W1 ⟨rfl, hb1⟩
  have HG1 := Shut.mk (HG.out.below hb1)
  clear hb1
  go_wp2_with fail
  go_ret
  exact ⟨by rw [HE.out]; rfl, HG1.out.bel⟩
 | true =>
  have HRR : Shut (R = roomF ⟨nds rs, nx⟩ m 15 0 id) := ⟨by rw [HR.out, if_pos hok]⟩
  have HOK := Shut.mk hok
  rw [hok] at HTO
  clear hok HR
  go_enter Tryz.func114, Tryz.ntmps114
  go_upto_region 1 with fail
  refine wp_shade (fun W => BX w W a n cap nx) (BX.new w a n cap nx 26) ?_
  intro W hg
  have HG := Shut.mk hg
  have x0 := (hg.box.2 0 _ rfl).1
  have x1 := (hg.box.2 1 _ rfl).1
  clear hg
  go_wp2_with fail
  refine (HTO.out _ HG.out.bel).mono ?_
  rintro e W1 ⟨rfl, hb1⟩
  have HG1 := Shut.mk (HG.out.below hb1)
  clear hb1 x0 x1 HG
  go_wp2_with fail
  go_loopw [1, 7] (fun iv mv wr => ∃ (s : Nat) (c : Int), iv = .int .i64 c ∧ mv = .int .i64 s ∧ s ≤ 15 ∧ Shut (R = roomF ⟨nds rs, nx⟩ m (15 - s) s c) ∧ Shut (BX w wr a n cap nx)) (fun _ mv _ => 15 - (intOf mv).toNat)
  case atStart => exact ⟨0, id, rfl, rfl, by omega, ⟨HRR.out⟩, HG1⟩
  case round =>
   clear HG1
   obtain ⟨s, c, rfl, rfl, hs15, hcl, HG⟩ := hrel
   by_cases hlt : s < 15
   ·have m1 : (s : Int) ≤ 14 := by omega
    obtain ⟨f, hf⟩ : ∃ f, f = 15 - (s + 1) := ⟨_, rfl⟩
    have hcl' := hcl.out
    rw [show 15 - s = f + 1 by omega] at hcl'
    have x0 := (HG.out.box.2 0 _ rfl).1
    have x1 := (HG.out.box.2 1 _ rfl).1
    have HAT := Shut.mk (HTS.out wr HG.out.bel c)
    rcases at_cases (nds rs) c with ⟨hat, hfn⟩ | ⟨i, hi, hat, hfn⟩
    ·have HE : Shut (R = decide ((0 : Int) < (s : Int))) := ⟨by rw [hcl', roomF_none hfn]; exact decide_eq_decide.2 ⟨fun h => by omega, fun h => by omega⟩⟩
     rw [hat] at HAT
     clear hcl' hcl hf hfn hat
     by_cases hs0 : 0 < s
     ·have hsI : (0 : Int) < (s : Int) := by omega
      have HF : Shut (R = true) := ⟨by rw [HE.out, decide_eq_true hsI]⟩
      clear HE
      go_wp2_with fail
      refine HAT.out.mono ?_
      rintro e W6 ⟨rfl, hb6⟩
      have HG6 := Shut.mk (HG.out.below hb6)
      clear hb6
      go_wp2_with fail
      go_ret
      exact ⟨by rw [HF.out]; first | rfl | simp [hs0], HG6.out.bel⟩
     ·have hs1 : s = 0 := by omega
      subst hs1
      have HF : Shut (R = false) := ⟨by rw [HE.out]; rfl⟩
      clear HE
      go_wp2_with fail
      refine HAT.out.mono ?_
      rintro e W6 ⟨rfl, hb6⟩
      have HG6 := Shut.mk (HG.out.below hb6)
      clear hb6
      go_wp2_with fail
      go_ret
      exact ⟨by rw [HF.out]; rfl, HG6.out.bel⟩
    ·have hir : i < rs.length := by rw [nds_len] at hi; exact hi
     have hnk := treeOk_node HOK.out (i := i) hi
     have hqd := fun hd => nodeOk_quota hnk hd
     have hus := usedX_le ⟨nds rs, nx⟩ c
     have HNX : Shut (R = if rs[i].nd.dir = true ∧ 0 < rs[i].nd.quota ∧ rs[i].nd.quota - usedX ⟨nds rs, nx⟩ c < m then false else roomF ⟨nds rs, nx⟩ m (15 - (s + 1)) (s + 1) rs[i].nd.parent) := ⟨by rw [hcl', roomF_some hfn]; dsimp only; rw [nds_getD hir, ← hf]⟩
     dsimp only at hqd
     rw [nds_getD hir] at hqd
     rw [hat] at HAT
     have i0 : (0 : Int) ≤ (i : Int) := by omega
     have i1 : (i : Int) < (n : Int) := by have := HM.out.2; omega
     have i2 : ¬ (i : Int) < 0 := by omega
     clear hcl' hcl hf hfn hat hi hnk
     go_wp2_with fail
     refine HAT.out.mono ?_
     rintro e W6 ⟨rfl, hb6⟩
     have HG6 := Shut.mk (HG.out.below hb6)
     clear hb6 x0 x1 HAT HG
     have x0 := (HG6.out.box.2 0 _ rfl).1
     have x1 := (HG6.out.box.2 1 _ rfl).1
     have hwl : w.heap.size < W6.heap.size := HG6.out.box.1
     obtain ⟨b, off, rfl, lb, hc⟩ := TR.nat (HM.out.1.below HG6.out.bel) (by omega)
     have HC := Shut.mk (hc i hir)
     have e1 := (hc i hir).2.1
     have e3 := (hc i hir).2.2.2.1
     have e5 := (hc i hir).2.2.2.2.2.1
     have HUC := Shut.mk (fun W (hW : Below W6.heap.size W6 W) => HUS.out W (HG6.out.bel.trans (hW.mono HG6.out.bel.size)) c)
     clear hc
     generalize usedX ⟨nds rs, nx⟩ c = u at *
     generalize rs[i] = r at *
     cases hd : r.nd.dir with
     | false =>
      rw [hd] at e3
      have HN2 : Shut (R = roomF ⟨nds rs, nx⟩ m (15 - (s + 1)) (s + 1) r.nd.parent) := ⟨by rw [HNX.out, if_neg (by rw [hd]; simp)]⟩
      clear hd HNX hqd
      go_wp2_with fail
      go_quiet (fail)
      go_wp2_with fail
      go_roundw
      case rel => exact ⟨s + 1, r.nd.parent, rfl, by go_num, by omega, HN2, ⟨HG6.out.below ⟨rfl, rfl, rfl, Nat.le_refl _, fun _ _ => rfl⟩⟩⟩
      case measure => simp [intOf]; omega
     | true =>
      rw [hd] at e3
      have hq := hqd hd
      by_cases hq0 : 0 < r.nd.quota
      ·have hq0' : decide ((0 : Int) < r.nd.quota) = true := by simpa using hq0
       have hwq : IntKind.i64.wrap (r.nd.quota - u) = r.nd.quota - u := IntWalk.i64_in _ ⟨by omega, by omega⟩
       have HNX' : Shut (R = if r.nd.quota - u < m then false else roomF ⟨nds rs, nx⟩ m (15 - (s + 1)) (s + 1) r.nd.parent) := ⟨by
        rw [HNX.out]
        by_cases hc : r.nd.quota - u < m
        ·rw [if_pos hc, if_pos ⟨hd, hq0, hc⟩]
        ·rw [if_neg hc, if_neg (fun q => hc q.2.2)]⟩
       clear hd HNX hqd
       go_wp2_with fail
       go_region_held3 (fun w' => w'.cell? ⟨w.heap.size, 0, none⟩ = some (.slice (some ⟨b, off, none⟩) n cap) ∧ w'.cell? ⟨w.heap.size, 1, none⟩ = some (.int .i64 nx) ∧ w'.cell? ⟨b, off + i * 9 + 3, none⟩ = some (.bool true) ∧ w'.cell? ⟨b, off + i * 9 + 5, none⟩ = some (.int .i64 r.nd.quota))
        (first | go_keep | (refine ⟨?_, ?_, ?_, ?_⟩ <;> first | (rw [hb9.cell (by exact hwl)]; simp [*]; done) | (rw [hb9.cell (by exact lb)]; simp [*]; done)))
        ((go_at_call 23; refine (HUC.out _ (by first | exact Below.refl _ _ | exact Below.drew (Below.refl _ _))).mono ?_; rintro e w9 ⟨rfl, hb9⟩))
       all_goals
        have hb : Below W6.heap.size W6 w9 := by first | exact (Below.drew (Below.refl _ _)).trans hb9 | exact hb9
        have HG9 := Shut.mk (HG6.out.below hb)
        have z0 := (HG9.out.box.2 0 _ rfl).1
        have f1 := (HC.out.below hb lb).2.1
        clear hb hb9
        by_cases hc : r.nd.quota - u < m
        ·have hc' : decide (r.nd.quota - u < m) = true := by simpa using hc
         have HE : Shut (R = false) := ⟨by rw [HNX'.out, if_pos hc]⟩
         clear HNX'
         go_wp2_with fail
         go_ret
         exact ⟨by rw [HE.out]; rfl, HG9.out.bel⟩
        ·have hc' : decide (r.nd.quota - u < m) = false := by simpa using hc
         have HN2 : Shut (R = roomF ⟨nds rs, nx⟩ m (15 - (s + 1)) (s + 1) r.nd.parent) := ⟨by rw [HNX'.out, if_neg hc]⟩
         clear HNX'
         go_wp2_with fail
         go_roundw
         case rel => exact ⟨s + 1, r.nd.parent, rfl, by go_num, by omega, HN2, HG9⟩
         case measure => simp [intOf]; omega
      ·have hq0' : decide ((0 : Int) < r.nd.quota) = false := by simpa using hq0
       have HN2 : Shut (R = roomF ⟨nds rs, nx⟩ m (15 - (s + 1)) (s + 1) r.nd.parent) := ⟨by rw [HNX.out, if_neg (fun q => hq0 q.2.1)]⟩
       clear hd HNX hqd
       go_wp2_with fail
       go_quiet (fail)
       go_wp2_with fail
       go_roundw
       case rel => exact ⟨s + 1, r.nd.parent, rfl, by go_num, by omega, HN2, ⟨HG6.out.below ⟨rfl, rfl, rfl, Nat.le_refl _, fun _ _ => rfl⟩⟩⟩
       case measure => simp [intOf]; omega
   ·have hm : s = 15 := by omega
    have HE : Shut (R = false) := ⟨by rw [hcl.out, hm]; rfl⟩
    have m1 : ¬ (s : Int) ≤ 14 := by omega
    clear hm hcl
    go_wp2_with fail
    go_ret
    exact ⟨by rw [HE.out]; rfl, HG.out.bel⟩
end Go.Proofs.YtakhagkhngmpaaaGreat
/- ApM: . -/
namespace Go.Proofs.YtakhagkhngmpaaaGreat
set_option maxRecDepth 100000
def plc (T : TM) (id : Int) : Nat := (atI T.nodes id).toNat
def ndAt (T : TM) (k : Nat) : NM := T.nodes.getD k default
def setN (T : TM) (k : Nat) (x : NM) : TM := ⟨T.nodes.set k x, T.next⟩
def upX (T : TM) (p : ByteArray) : Int := findX T (parentB p).1
def addT (T : TM) (p : ByteArray) (x : NM) : TM := ⟨T.nodes ++ [{ x with id := T.next, parent := upX T p, name := (parentB p).2.1, schema := if x.dir then x.schema else schemaAtX T (upX T p) }], T.next + 1⟩
def addX (T : TM) (p : ByteArray) (x : NM) : TM × Int :=
 if upX T p = 0 then (T, 1)
 else if (ndAt T (plc T (upX T p))).dir = false then (T, 3)
 else if findX T p ≠ 0 then (T, 2)
 else if T.nodes.length = 14 ∨ T.next = 100000 ∨ treeOk (addT T p x) = false then (T, 8)
 else (addT T p x, 0)
def moveT (T : TM) (p : ByteArray) (id : Int) : TM := setN T (plc T id) { ndAt T (plc T id) with parent := upX T p, name := (parentB p).2.1 }
def moveX (T : TM) (p : ByteArray) (id : Int) : TM × Int :=
 if upX T p = 0 then (T, 1)
 else if (ndAt T (plc T (upX T p))).dir = false then (T, 3)
 else if findX T p ≠ 0 then (T, 2)
 else if belowF T.nodes 15 (upX T p) id = true then (T, 7)
 else if treeOk (moveT T p id) = false then (T, 8)
 else (moveT T p id, 0)
def dropT (T : TM) (id : Int) : TM := ⟨T.nodes.filter (fun n => !belowF T.nodes 15 n.id id), T.next⟩
def setX (T : TM) (e : EM) (k : Nat) : TM × Int :=
 if (ndAt T k).dir = false then (T, 3)
 else if e.kind = 5 then (setN T k { ndAt T k with schema := e.num }, 0)
 else if 0 < e.num ∧ e.num < usedX T (ndAt T k).id then (T, 5)
 else (setN T k { ndAt T k with quota := e.num }, 0)
def newP (g : Int) : List Int → List PM
 | [] => []
 | l :: ls => ⟨g, l⟩ :: newP (g + 1) ls
theorem newP_len (g : Int) (ls : List Int) : (newP g ls).length = ls.length := by
 induction ls generalizing g with
 | nil => rfl
 | cons l ls ih => simp [newP, ih]
theorem newP_take (g : Int) (ls : List Int) (j : Nat) (h : j < ls.length) : newP g (ls.take (j + 1)) = newP g (ls.take j) ++ [⟨g + j, ls[j]⟩] := by
 induction ls generalizing g j with
 | nil => simp at h
 | cons l ls ih =>
  cases j with
  | zero => simp [newP]
  | succ j =>
   have := ih (g + 1) j (by simpa using h)
   simp only [List.take_succ_cons, newP, this, List.getElem_cons_succ, List.cons_append]
   simp
   omega
def writeX (T : TM) (e : EM) (k : Nat) (g : Int) : TM × Int :=
 if (ndAt T k).dir = true then (T, 3)
 else if ((e.kind == 9) != ((ndAt T k).writer == 0)) = true then (T, 6)
 else if e.kind = 9 then (setN T k { ndAt T k with writer := e.who }, 0)
 else if e.kind = 8 then (setN T k { ndAt T k with writer := 0 }, 0)
 else if roomX T (ndAt T k).id e.num = false ∨ 1000 < (ndAt T k).len + e.num then (T, 5)
 else if 40 < (ndAt T k).pieces.length + (spansX (ndAt T k).schema e.num).length then (T, 8)
 else (setN T k { ndAt T k with pieces := (ndAt T k).pieces ++ newP g (spansX (ndAt T k).schema e.num), len := (ndAt T k).len + e.num }, 0)
def newDir : NM := ⟨0, 0, ⟨#[]⟩, true, 0, 0, 0, [], 0⟩
def newFile (who : Int) : NM := ⟨0, 0, ⟨#[]⟩, false, 0, 0, 0, [], who⟩
def mayX (T : TM) (e : EM) (g : Int) : Bool := treeOk T && editOk e && inI g 1 99000
def applyX (T : TM) (e : EM) (g : Int) : TM × Int :=
 if mayX T e g = false then (T, 7)
 else if e.kind = 10 then (T, 0)
 else if e.kind = 1 then addX T e.path newDir
 else if e.kind = 2 then addX T e.path (newFile e.who)
 else if findX T e.path = 0 then (T, 1)
 else if e.kind = 3 then moveX T e.dest (findX T e.path)
 else if e.kind = 4 then (dropT T (findX T e.path), 0)
 else if e.kind = 5 ∨ e.kind = 6 then setX T e (plc T (findX T e.path))
 else writeX T e (plc T (findX T e.path)) g
def groupsX (T : TM) (e : EM) (g : Int) : Int :=
 if (applyX T e g).2 ≠ 0 then g
 else if e.kind = 10 then g + 20
 else if e.kind ≠ 7 then g
 else g + (ndAt (applyX T e g).1 (plc T (findX T e.path))).pieces.length - (ndAt T (plc T (findX T e.path))).pieces.length
def stepX (s : TM × Int) (e : EM) : TM × Int := if (applyX s.1 e s.2).2 = 0 then ((applyX s.1 e s.2).1, groupsX s.1 e s.2) else s
def allX (T : TM) (es : List EM) (g : Int) : TM × Int := es.foldl stepX (T, g)
end Go.Proofs.YtakhagkhngmpaaaGreat
/- ApA: . -/
namespace Go.Proofs.YtakhagkhngmpaaaGreat
set_option maxRecDepth 100000
open Go.RowKit
structure MB (w0 w : World) (L : List (Nat × List Value)) : Prop where
 box : ∀ p ∈ L, WCells w p.1 p.2 ∧ w0.heap.size ≤ p.1
 dist : L.Pairwise fun p q => p.1 ≠ q.1
 bel : Below w0.heap.size w0 w
theorem MB.nil (w : World) : MB w w [] := ⟨by simp, List.Pairwise.nil, Below.refl _ _⟩
theorem MB.below {w0 w w' : World} {L : List (Nat × List Value)} (h : MB w0 w L) (hb : Below w.heap.size w w') : MB w0 w' L :=
 ⟨fun p hp => ⟨(h.box p hp).1.grow hb, (h.box p hp).2⟩, h.dist, h.bel.trans (hb.mono h.bel.size)⟩
theorem MB.new {w0 w : World} {L : List (Nat × List Value)} (h : MB w0 w L) (cs : Array Value) (t : TypeId) : MB w0 (w.alloc (.cells cs t)) ((w.heap.size, cs.toList) :: L) := by
 have hb : Below w.heap.size w (w.alloc (.cells cs t)) := (Below.refl _ _).alloc (Nat.le_refl _) _
 refine ⟨fun p hp => ?_, List.pairwise_cons.2 ⟨fun q hq => ?_, h.dist⟩, (h.below hb).bel⟩
 ·rcases List.mem_cons.1 hp with rfl | hp
  ·exact ⟨wcells_new w cs t, h.bel.size⟩
  ·exact (h.below hb).box p hp
 ·have := (h.box q hq).1.1
  show w.heap.size ≠ q.1
  omega
theorem MB.at {w0 w : World} {L : List (Nat × List Value)} (h : MB w0 w L) (i : Nat) {g : Nat} {X : List Value} (hi : L[i]? = some (g, X)) : WCells w g X ∧ w0.heap.size ≤ g := h.box _ (List.mem_of_getElem? hi)
theorem MB.put {w0 w : World} {L : List (Nat × List Value)} (h : MB w0 w L) (i : Nat) {g : Nat} {X : List Value} (hi : L[i]? = some (g, X)) (j : Nat) (v : Value) (hj : j < X.length) : MB w0 (w.setCell ⟨g, j, none⟩ v) (L.set i (g, X.set j v)) := by
 obtain ⟨hl, he⟩ := List.getElem?_eq_some_iff.1 hi
 have hd := List.pairwise_iff_getElem.1 h.dist
 have hk := h.at i hi
 refine ⟨fun p hp => ?_, List.pairwise_iff_getElem.2 fun a b ha hb hab => ?_, h.bel.setCell (p := ⟨g, j, none⟩) hk.2 _⟩
 ·obtain ⟨k, hk', rfl⟩ := List.mem_iff_getElem.1 hp
  rw [List.length_set] at hk'
  rw [List.getElem_set]
  split
  ·exact ⟨hk.1.set j v hj, hk.2⟩
  ·rename_i hne
   refine ⟨(h.box _ (List.getElem_mem hk')).1.other _ _ ?_, (h.box _ (List.getElem_mem hk')).2⟩
   show L[k].1 ≠ g
   have e : L[i].1 = g := by rw [he]
   rcases Nat.lt_or_gt_of_ne hne with q | q
   ·have := hd i k hl hk' q; omega
   ·have := hd k i hk' hl q; omega
 ·rw [List.length_set] at ha hb
  have := hd a b ha hb hab
  have e : L[i].1 = g := by rw [he]
  rw [List.getElem_set, List.getElem_set]
  split
  ·rename_i h1
   subst h1
   split
   ·omega
   ·show g ≠ L[b].1; omega
  ·split
   ·rename_i h2
    subst h2
    show L[a].1 ≠ g
    omega
   ·exact this
theorem MB.far {w0 w w' : World} {L : List (Nat × List Value)} {q : Option Nat} (h : MB w0 w L) (hg : w.grownBy w' q) (hq : ∀ p ∈ L, q ≠ some p.1) (h0 : ∀ k, q = some k → w0.heap.size ≤ k) : MB w0 w' L :=
 ⟨fun p hp => ⟨wc_by (h.box p hp).1 hg (hq p hp), (h.box p hp).2⟩, h.dist, h.bel.grown hg h.bel.size h0⟩
theorem ncs_set (rs : List NR) (k : Nat) (hk : k < rs.length) (f : Nat) (hf : f < 9) (x : Value) (r : NR) (hc : ncells r = (ncells rs[k]).set f x) : (ncs rs).set (k * 9 + f) x = ncs (rs.set k r) := by
 apply List.ext_getElem?
 intro i
 rw [List.getElem?_set]
 have hlen := ncs_len rs
 have hlen2 : (ncs (rs.set k r)).length = rs.length * 9 := by rw [ncs_len, List.length_set]
 by_cases hi : i < rs.length * 9
 ·have e1 : i / 9 < rs.length := by omega
  have e2 : i % 9 < 9 := by omega
  have e3 : i = i / 9 * 9 + i % 9 := by omega
  have a1 : (ncs rs)[i]? = (ncells rs[i / 9])[i % 9]? := by
   rw [show (ncs rs)[i]? = (ncs rs)[i / 9 * 9 + i % 9]? by rw [← e3]]
   exact flat_get ncells_len rs (i / 9) e1 (i % 9) e2
  have a2 : (ncs (rs.set k r))[i]? = (ncells ((rs.set k r)[i / 9]'(by rw [List.length_set]; exact e1)))[i % 9]? := by
   rw [show (ncs (rs.set k r))[i]? = (ncs (rs.set k r))[i / 9 * 9 + i % 9]? by rw [← e3]]
   exact flat_get ncells_len (rs.set k r) (i / 9) (by rw [List.length_set]; exact e1) (i % 9) e2
  rw [a2, List.getElem_set]
  by_cases hik : k * 9 + f = i
  ·have b1 : k = i / 9 := by omega
   have b2 : f = i % 9 := by omega
   rw [if_pos hik, if_pos b1, hc, ← b2, List.getElem?_set_self (by rw [ncells_len]; exact hf), if_pos (by rw [hlen]; omega)]
  ·rw [if_neg hik, a1]
   by_cases b1 : k = i / 9
   ·rw [if_pos b1, hc, List.getElem?_set_ne (by omega)]
    congr 2
    exact (getElem_congr_idx b1).symm
   ·rw [if_neg b1]
 ·rw [if_neg (by omega), List.getElem?_eq_none (by omega), List.getElem?_eq_none (by omega)]
theorem own_zero {w : World} {B n c sz : Nat} {t : TypeId} {q : Addr} {L : List Value} (h : w.ownsRow B t sz (.slice (some q) n c) n L) : q = ⟨q.block, 0, none⟩ := by
 rcases h.2 with ⟨e, _⟩ | ⟨g, cap, cur, e, _⟩
 ·cases e
 ·simp at e
  rw [e.1]
theorem NB.grow {w w5 : World} {B n cap g k gg cap1 : Nat} {rs : List NR} {r : NR} {o : Obj} {new : PM} (h : NB w B (.slice (some ⟨g, 0, none⟩) n cap) rs) (hn : rs.length = n) (hk : rs[k]? = some r) (hgrow : ((w.alloc o).drew).grownBy w5 (Value.slice r.loc r.nd.pieces.length r.cap).ownBlock)
  (ho : w5.ownsRow B 99 2 (.slice (some ⟨gg, 0, none⟩) (r.nd.pieces.length + 1) cap1) (r.nd.pieces.length + 1) (pcs r.nd.pieces ++ pcells new)) (hat : (Value.slice r.loc r.nd.pieces.length r.cap).ownBlock = some gg ∨ gg = w.heap.size + 1) :
  NB (w5.setCell ⟨g, k * 9 + 7, none⟩ (.slice (some ⟨gg, 0, none⟩) (r.nd.pieces.length + 1) cap1)) B (.slice (some ⟨g, 0, none⟩) n cap) (rs.set k ⟨{ r.nd with pieces := r.nd.pieces ++ [new] }, some ⟨gg, 0, none⟩, cap1⟩) := by
 subst hn
 obtain ⟨hk', er⟩ := List.getElem?_eq_some_iff.1 hk
 subst er
 have hba : Below w.heap.size w (w.alloc o).drew := ((Below.refl _ _).alloc (Nat.le_refl _) _).drew
 have hN := h.below hba
 have hlt : ∀ s ∈ rs, ∀ q, s.loc = some q → q.block < w.heap.size := fun s hs q e => ((h.rows s hs).lt q.block (by rw [e]; rfl)).2
 obtain ⟨cg, hcg⟩ := own_blk' hN.own (show (Value.slice (some ⟨g, 0, none⟩) rs.length cap).ownBlock = some g from rfl)
 have hgo : (Value.slice rs[k].loc rs[k].nd.pieces.length rs[k].cap).ownBlock ≠ some g := fun e => by
  obtain ⟨c1, h1⟩ := own_blk' (hN.rows _ (List.getElem_mem hk')) e
  rw [hcg] at h1
  simp at h1
 have hown5 := hN.own.kept hgrow (.inr (by intro e; exact hgo e.symm))
 have hggg : gg ≠ g := by
  have hgl := (h.own.lt g rfl).2
  rcases hat with e | e
  ·intro e2; rw [e2] at e; exact hgo e
  ·omega
 have hst := (hown5.stored (k * 9 + 7) (.slice (some ⟨gg, 0, none⟩) (rs[k].nd.pieces.length + 1) cap1)).1
 have ha := List.pairwise_iff_getElem.1 h.apart
 have hap : ∀ j (hj : j < rs.length), j ≠ k → rs[j].loc ≠ none → rs[k].loc ≠ none → rs[j].loc ≠ rs[k].loc := fun j hj hjk h1 h2 => by
  rcases Nat.lt_or_gt_of_ne hjk with q | q
  ·exact ha j k hj hk' q h1 h2
  ·exact fun e => ha k j hk' hj q h2 h1 e.symm
 refine ⟨?_, fun s hs => ?_, ?_⟩
 ·rw [List.length_set, ← ncs_set rs k hk' 7 (by omega) (.slice (some ⟨gg, 0, none⟩) (rs[k].nd.pieces.length + 1) cap1) _ (by simp [ncells])]
  exact hst
 ·obtain ⟨j, hj, rfl⟩ := List.mem_iff_getElem.1 hs
  rw [List.length_set] at hj
  rw [List.getElem_set]
  split
  ·have e : pcs (rs[k].nd.pieces ++ [new]) = pcs rs[k].nd.pieces ++ pcells new := by simp [pcs]
   show World.ownsRow _ _ _ _ (.slice (some ⟨gg, 0, none⟩) (rs[k].nd.pieces ++ [new]).length cap1) (rs[k].nd.pieces ++ [new]).length (pcs (rs[k].nd.pieces ++ [new]))
   rw [e, List.length_append, List.length_singleton]
   exact ho.kept (gb_set' _ _ _ _) (.inr (by simp [Value.ownBlock]; exact hggg))
  ·rename_i hjk
   have h1 : w5.ownsRow B 99 2 (.slice rs[j].loc rs[j].nd.pieces.length rs[j].cap) rs[j].nd.pieces.length (pcs rs[j].nd.pieces) := by
    refine (hN.rows _ (List.getElem_mem hj)).kept hgrow ?_
    cases e : rs[j].loc with
    | none => exact .inl rfl
    | some q =>
     refine .inr fun e2 => ?_
     cases e3 : rs[k].loc with
     | none => rw [e3] at e2; cases e2
     | some q' =>
      have hne := hap j hj (fun e => hjk e.symm) (by rw [e]; simp) (by rw [e3]; simp)
      rw [e, e3] at hne
      rw [e3] at e2
      have z1 := own_zero (by have := h.rows _ (List.getElem_mem hj); rw [e] at this; exact this)
      have z2 := own_zero (by have := h.rows _ (List.getElem_mem hk'); rw [e3] at this; exact this)
      simp [Value.ownBlock] at e2
      exact hne (by rw [z1, z2, e2])
   refine h1.kept (gb_set' _ _ _ _) ?_
   cases e : rs[j].loc with
   | none => exact .inl rfl
   | some q =>
    refine .inr fun e2 => ?_
    obtain ⟨c1, h2⟩ := own_blk' (hN.rows _ (List.getElem_mem hj)) (by rw [e]; exact e2)
    rw [hcg] at h2
    simp at h2
 ·have hnew : ∀ j (hj : j < rs.length), j ≠ k → rs[j].loc ≠ some ⟨gg, 0, none⟩ := fun j hj hjk e => by
   rcases hat with q | q
   ·cases e3 : rs[k].loc with
    | none => rw [e3] at q; cases q
    | some q' =>
     rw [e3] at q
     have z2 := own_zero (by have := h.rows _ (List.getElem_mem hk'); rw [e3] at this; exact this)
     simp [Value.ownBlock] at q
     exact hap j hj hjk (by rw [e]; simp) (by rw [e3]; simp) (by rw [e, e3, z2, q])
   ·have := hlt _ (List.getElem_mem hj) _ e
    simp at this
    omega
  refine List.pairwise_iff_getElem.2 fun a b ha' hb' hab => ?_
  rw [List.length_set] at ha' hb'
  rw [List.getElem_set, List.getElem_set]
  split
  ·rename_i h1
   rw [if_neg (by omega)]
   intro _ _ e
   exact hnew b hb' (by omega) e.symm
  ·split
   ·rename_i h1 h2
    intro _ _ e
    exact hnew a ha' (by omega) e
   ·exact ha a b ha' hb' hab
theorem NB.put {w : World} {B g cap : Nat} {rs : List NR} (h : NB w B (.slice (some ⟨g, 0, none⟩) rs.length cap) rs) (k : Nat) (hk : k < rs.length) (f : Nat) (hf : f < 9) (x : Value) (r : NR) (hc : ncells r = (ncells rs[k]).set f x) (hl : r.loc = rs[k].loc) (hcp : r.cap = rs[k].cap) (hp : r.nd.pieces = rs[k].nd.pieces) :
  NB (w.setCell ⟨g, k * 9 + f, none⟩ x) B (.slice (some ⟨g, 0, none⟩) rs.length cap) (rs.set k r) := by
 have hgb := gb_set' w g (k * 9 + f) x
 have hst := (h.own.stored (k * 9 + f) x).1
 have hcs := ncs_set rs k hk f hf x r hc
 refine ⟨?_, fun s hs => ?_, ?_⟩
 ·rw [← hcs, List.length_set]
  exact hst
 ·have hs' : ∃ s' ∈ rs, s.loc = s'.loc ∧ s.cap = s'.cap ∧ s.nd.pieces = s'.nd.pieces := by
   rcases List.mem_or_eq_of_mem_set hs with q | q
   ·exact ⟨s, q, rfl, rfl, rfl⟩
   ·subst q; exact ⟨rs[k], List.getElem_mem hk, hl, hcp, hp⟩
  obtain ⟨s', hm, e1, e2, e3⟩ := hs'
  rw [e1, e2, e3]
  refine (h.rows s' hm).kept hgb ?_
  cases e : (Value.slice s'.loc s'.nd.pieces.length s'.cap).ownBlock with
  | none => exact .inl rfl
  | some q =>
   refine .inr fun e2 => ?_
   obtain ⟨c1, h1⟩ := own_blk' (h.rows s' hm) e
   obtain ⟨c2, h2⟩ := own_blk' h.own (show (Value.slice (some ⟨g, 0, none⟩) rs.length cap).ownBlock = some g from rfl)
   cases e2
   rw [h1] at h2
   simp at h2
 ·have ha := List.pairwise_iff_getElem.1 h.apart
  refine List.pairwise_iff_getElem.2 fun a b ha' hb' hab => ?_
  rw [List.length_set] at ha' hb'
  have := ha a b ha' hb' hab
  rw [List.getElem_set, List.getElem_set]
  split
  ·rename_i h1
   subst h1
   rw [if_neg (by omega), hl]
   exact this
  ·split
   ·rename_i h2
    subst h2
    rw [hl]
    exact this
   ·exact this
theorem NB.cellK {w : World} {B n cap g : Nat} {rs : List NR} {k : Nat} {r : NR} (h : NB w B (.slice (some ⟨g, 0, none⟩) n cap) rs) (hn : rs.length = n) (hk : rs[k]? = some r) (f : Nat) (v : Value) (hv : (ncells r)[f]? = some v) : w.cell? ⟨g, k * 9 + f, none⟩ = some v ∧ w.frozen? ⟨g, k * 9 + f, none⟩ = false := by
 subst hn
 obtain ⟨hk', e⟩ := List.getElem?_eq_some_iff.1 hk
 have hw := own_wcells h.own
 have hf : f < 9 := by have := (List.getElem?_eq_some_iff.1 hv).1; rw [ncells_len] at this; exact this
 exact hw.2 _ _ ((flat_get ncells_len rs k hk' f hf).trans (by rw [e]; exact hv))
theorem NB.putK {w : World} {B n cap g : Nat} {rs : List NR} {k : Nat} {r : NR} (h : NB w B (.slice (some ⟨g, 0, none⟩) n cap) rs) (hn : rs.length = n) (hk : rs[k]? = some r) (f : Nat) (hf : f < 9) (x : Value) (r' : NR) (hc : ncells r' = (ncells r).set f x) (hl : r'.loc = r.loc) (hcp : r'.cap = r.cap) (hp : r'.nd.pieces = r.nd.pieces) :
  NB (w.setCell ⟨g, k * 9 + f, none⟩ x) B (.slice (some ⟨g, 0, none⟩) n cap) (rs.set k r') := by
 subst hn
 obtain ⟨hk', e⟩ := List.getElem?_eq_some_iff.1 hk
 subst e
 exact h.put k hk' f hf x r' hc hl hcp hp
theorem copy_at {rs rs2 : List NR} {k : Nat} {r : NR} (h : nds rs2 = nds rs) (hk : rs[k]? = some r) : ∃ loc cp, rs2[k]? = some ⟨r.nd, loc, cp⟩ := by
 have h1 : (nds rs2)[k]? = (nds rs)[k]? := by rw [h]
 simp only [nds, List.getElem?_map, hk, Option.map_some] at h1
 cases h2 : rs2[k]? with
 | none => rw [h2] at h1; cases h1
 | some s =>
  rw [h2] at h1
  simp only [Option.map_some, Option.some.injEq] at h1
  exact ⟨s.loc, s.cap, by rw [← h1]⟩
theorem NB.lts {w : World} {B : Nat} {v : Value} {rs : List NR} (h : NB w B v rs) : ∀ r ∈ rs, ∀ q, r.loc = some q → q.block < w.heap.size := fun r hr q e => by
 have := (h.rows r hr).lt q.block (by rw [e]; rfl)
 exact this.2
theorem NB.setAway {w : World} {B : Nat} {v : Value} {rs : List NR} (h : NB w B v rs) (g i : Nat) (x : Value) (hv : v.ownBlock ≠ some g) (hr : ∀ r ∈ rs, ∀ q, r.loc = some q → q.block ≠ g) : NB (w.setCell ⟨g, i, none⟩ x) B v rs := by
 refine ⟨h.own.kept (gb_set' w g i x) (.inr hv), fun r hr' => (h.rows r hr').kept (gb_set' w g i x) (.inr fun e => ?_), h.apart⟩
 cases hl : r.loc with
 | none => rw [hl] at e; cases e
 | some q =>
  rw [hl] at e
  simp [Value.ownBlock] at e
  exact hr r hr' q hl e
theorem NB.beyond {w w' : World} {B C : Nat} {v : Value} {rs : List NR} {q : Option Nat} (h : NB w B v rs) (hg : w.grownBy w' q) (hq : ∀ k, q = some k → C ≤ k) (hv : ∀ k, v.ownBlock = some k → k < C) (hr : ∀ r ∈ rs, ∀ a, r.loc = some a → a.block < C) : NB w' B v rs := by
 refine ⟨h.own.kept hg ?_, fun r hr' => (h.rows r hr').kept hg ?_, h.apart⟩
 ·cases e : v.ownBlock with
  | none => exact .inl rfl
  | some k => exact .inr fun e2 => by have := hq k e2.symm; have := hv k e; omega
 ·cases e : (Value.slice r.loc r.nd.pieces.length r.cap).ownBlock with
  | none => exact .inl rfl
  | some k =>
   refine .inr fun e2 => ?_
   have h1 := hq k e2.symm
   cases hl : r.loc with
   | none => rw [hl] at e; cases e
   | some a =>
    rw [hl] at e
    simp [Value.ownBlock] at e
    have := hr r hr' a hl
    omega
def ApPost (R : TM × Int) (w : World) (e : Ending) (w' : World) : Prop := ∃ v, e = .returned (.tuple #[v, .int .i64 R.2]) ∧ TAns w' v R.1 w.heap.size w'.heap.size ∧ Below w.heap.size w w'
end Go.Proofs.YtakhagkhngmpaaaGreat
/- ApF: . -/
namespace Go.Proofs.YtakhagkhngmpaaaGreat
set_option maxRecDepth 100000
theorem atI_mem {ns : List NM} {id : Int} (h : ∃ n ∈ ns, n.id = id) : ∃ k, ∃ hk : k < ns.length, atI ns id = (k : Int) ∧ ns[k].id = id := by
 rcases atI_cases ns id with ⟨-, h2⟩ | ⟨i, hi, h1, h2⟩
 ·obtain ⟨n, hn, e⟩ := h
  exact absurd e (h2 n hn)
 ·exact ⟨i, hi, h1, h2⟩
theorem kid_mem (ns : List NM) (c : Int) (nm : ByteArray) : ∀ (ms : List NM) (z : Int), ms.foldl (kidS c nm) z = z ∨ ∃ n ∈ ms, n.parent = c ∧ n.name = nm ∧ n.id = ms.foldl (kidS c nm) z
 | [], z => .inl rfl
 | m :: ms, z => by
  rw [List.foldl_cons]
  rcases kid_mem ns c nm ms (kidS c nm z m) with h | ⟨n, hn, h1, h2, h3⟩
  ·rw [h]
   unfold kidS
   split
   ·rename_i hc
    exact .inr ⟨m, by simp, hc.1, hc.2.1, rfl⟩
   ·exact .inl rfl
  ·exact .inr ⟨n, by simp [hn], h1, h2, h3⟩
theorem find_mem {ns : List NM} : ∀ (L : List ByteArray) (c : Int), (∃ n ∈ ns, n.id = c) → findF ns L c = 0 ∨ ∃ n ∈ ns, n.id = findF ns L c
 | [], c, h => .inr h
 | p :: ps, c, h => by
  unfold findF
  split
  ·exact .inl rfl
  ·rename_i h0
   refine find_mem ps _ ?_
   rcases kid_mem ns c p ns 0 with e | ⟨n, hn, -, -, e⟩
   ·exact absurd e h0
   ·exact ⟨n, hn, e⟩
theorem find_there {T : TM} {p : ByteArray} (h : findX T p ≠ 0) : ∃ k, ∃ hk : k < T.nodes.length, atI T.nodes (findX T p) = (k : Int) ∧ T.nodes[k].id = findX T p := by
 apply atI_mem
 unfold findX at h ⊢
 split at h
 ·rename_i hc
  rw [if_pos hc]
  have h1 : ∃ n ∈ T.nodes, n.id = 1 := by
   rcases atI_cases T.nodes 1 with ⟨e, -⟩ | ⟨i, hi, -, e⟩
   ·have := hc.2; omega
   ·exact ⟨_, List.getElem_mem hi, e⟩
  rcases find_mem (splitB p).1 1 h1 with e | e
  ·exact absurd e h
  ·exact e
 ·exact absurd rfl h
theorem tree_node {T : TM} (h : treeOk T = true) (i : Nat) (hi : i < T.nodes.length) : nodeOk T i = true := by
 unfold treeOk at h
 simp only [Bool.and_eq_true, List.all_eq_true, List.mem_range] at h
 exact h.2 i hi
theorem tree_len {T : TM} (h : treeOk T = true) : 1 ≤ T.nodes.length ∧ T.nodes.length ≤ 14 ∧ T.next ≤ 100000 := by
 unfold treeOk at h
 simp only [Bool.and_eq_true, decide_eq_true_eq] at h
 exact ⟨h.1.1.1, h.1.1.2, h.1.2⟩
theorem getD_at {ns : List NM} {i : Nat} (hi : i < ns.length) : ns.getD i default = ns[i] := by simp [List.getD, hi]
theorem node_parts {T : TM} (h : treeOk T = true) (i : Nat) (hi : i < T.nodes.length) : (T.nodes[i]).name.size ≤ 8 ∧ (T.nodes[i]).pieces.length ≤ 40 ∧ (T.nodes[i]).id < T.next ∧ 0 ≤ (T.nodes[i]).len ∧ (T.nodes[i]).len ≤ 1000 ∧ (T.nodes[i].dir = true → dirOk T.nodes[i] = true) ∧ (T.nodes[i].dir = false → fileOk T.nodes[i] = true) := by
 have hn := tree_node h i hi
 unfold nodeOk at hn
 rw [getD_at hi] at hn
 simp only [Bool.and_eq_true, decide_eq_true_eq, Bool.or_eq_true] at hn
 obtain ⟨⟨⟨h1, h2⟩, h3⟩, h4⟩ := hn
 have hd : (T.nodes[i].dir = true → dirOk T.nodes[i] = true) := fun e => by rw [if_pos e] at h3; exact h3
 have hf : (T.nodes[i].dir = false → fileOk T.nodes[i] = true) := fun e => by rw [if_neg (by rw [e]; simp)] at h3; exact h3
 refine ⟨?_, ?_, h1, ?_, ?_, hd, hf⟩
 ·rcases h4 with e | e
  ·rw [if_pos e] at h2
   unfold firstOk at h2
   simp only [Bool.and_eq_true, decide_eq_true_eq] at h2
   rw [h2.1.1.2]
   decide
  ·have := e.1.1.1.1
   unfold nameB at this
   exact (nameL_pos this).2
 ·cases hx : T.nodes[i].dir with
  | true =>
   have := hd hx
   unfold dirOk at this
   simp only [Bool.and_eq_true, decide_eq_true_eq] at this
   omega
  | false =>
   have := hf hx
   unfold fileOk at this
   simp only [Bool.and_eq_true, decide_eq_true_eq] at this
   omega
 ·cases hx : T.nodes[i].dir with
  | true =>
   have := hd hx
   unfold dirOk at this
   simp only [Bool.and_eq_true, decide_eq_true_eq, beq_iff_eq] at this
   omega
  | false => exact (fileOk_len (hf hx)).1
 ·cases hx : T.nodes[i].dir with
  | true =>
   have := hd hx
   unfold dirOk at this
   simp only [Bool.and_eq_true, decide_eq_true_eq, beq_iff_eq] at this
   omega
  | false => exact (fileOk_len (hf hx)).2
theorem nsum_le (ns : List NM) (c : Nat) (h : ∀ n ∈ ns, n.name.size + n.pieces.length ≤ c) : nsum ns ≤ c * ns.length := by
 induction ns with
 | nil => simp [nsum]
 | cons n ns ih =>
  have h1 := ih fun x hx => h x (by simp [hx])
  have h2 := h n (by simp)
  simp only [nsum, List.length_cons, Nat.mul_add]
  omega
theorem nsum_app (a b : List NM) : nsum (a ++ b) = nsum a + nsum b := by
 induction a with
 | nil => simp [nsum]
 | cons n a ih => simp only [List.cons_append, nsum, ih]; omega
theorem nsum_set (ns : List NM) (k : Nat) (x : NM) : nsum (ns.set k x) ≤ nsum ns + (x.name.size + x.pieces.length) := by
 induction ns generalizing k with
 | nil => simp [nsum]
 | cons n ns ih =>
  cases k with
  | zero => simp only [List.set_cons_zero, nsum]; omega
  | succ k => have := ih k; simp only [List.set_cons_succ, nsum]; omega
theorem tree_sum {T : TM} (h : treeOk T = true) : nsum T.nodes ≤ 672 := by
 have h1 := nsum_le T.nodes 48 fun n hn => by
  obtain ⟨i, hi, rfl⟩ := List.mem_iff_getElem.1 hn
  have := node_parts h i hi
  omega
 have := tree_len h
 omega
theorem tree_fit {T : TM} (h : treeOk T = true) : NFit T := by
 have h1 := tree_sum h
 have h2 := tree_len h
 unfold NFit
 omega
theorem add_fit {T : TM} (h : treeOk T = true) (p : ByteArray) (x : NM) (hx : x.pieces = []) : NFit (addT T p x) := by
 have h1 := tree_sum h
 have h2 := tree_len h
 have h3 := (parent_small p).2
 unfold NFit addT
 dsimp only
 rw [nsum_app, List.length_append]
 simp only [nsum, List.length_singleton, hx, List.length_nil]
 omega
theorem nd_mem {T : TM} {k : Nat} (hk : k < T.nodes.length) : ndAt T k = T.nodes[k] := getD_at hk
theorem move_fit {T : TM} (h : treeOk T = true) (p : ByteArray) (id : Int) (k : Nat) (hk : k < T.nodes.length) (hid : atI T.nodes id = (k : Int)) : NFit (moveT T p id) := by
 have h1 := tree_sum h
 have h2 := tree_len h
 have h3 := (parent_small p).2
 have e : plc T id = k := by unfold plc; rw [hid]; rfl
 have hp := node_parts h k hk
 unfold NFit moveT setN
 dsimp only
 rw [e, List.length_set, nd_mem hk]
 have h4 := nsum_set T.nodes k { T.nodes[k] with parent := upX T p, name := (parentB p).2.1 }
 dsimp only at h4
 omega
theorem next_low {T : TM} (h : treeOk T = true) : 1 < T.next := by
 have h2 := tree_len h
 have hn := tree_node h 0 (by omega)
 unfold nodeOk at hn
 rw [getD_at (by omega)] at hn
 simp only [Bool.and_eq_true, decide_eq_true_eq, if_true] at hn
 have h3 := hn.1.1.2
 unfold firstOk at h3
 simp only [Bool.and_eq_true, beq_iff_eq] at h3
 have h4 := hn.1.1.1
 rw [h3.1.1.1.1] at h4
 exact h4
end Go.Proofs.YtakhagkhngmpaaaGreat
/- TreJ: . -/
namespace Go.Proofs.YtakhagkhngmpaaaGreat
set_option maxRecDepth 100000
open Go.RowKit
attribute [local go_sem ↓] Go.wp_at_zero Go.wp_at_succ
def pathF (ns : List NM) : Nat → Int → List ByteArray → ByteArray
 | 0, _, _ => ⟨#[]⟩
 | f + 1, id, L => if id = 1 then joinB L else match ns.findIdx? (fun n => n.id == id) with
  | none => ⟨#[]⟩
  | some k => pathF ns f (ns.getD k default).parent ((ns.getD k default).name :: L)
theorem pathF_one {ns : List NM} {f : Nat} {c : Int} {L : List ByteArray} (h : c = 1) : pathF ns (f + 1) c L = joinB L := by
 conv => lhs; unfold pathF
 rw [if_pos h]
theorem pathF_none {ns : List NM} {f : Nat} {c : Int} {L : List ByteArray} (h0 : c ≠ 1) (h : ns.findIdx? (fun n => n.id == c) = none) : pathF ns (f + 1) c L = ⟨#[]⟩ := by
 conv => lhs; unfold pathF
 rw [if_neg h0, h]
theorem pathF_some {ns : List NM} {f i : Nat} {c : Int} {L : List ByteArray} (h0 : c ≠ 1) (h : ns.findIdx? (fun n => n.id == c) = some i) : pathF ns (f + 1) c L = pathF ns f (ns.getD i default).parent ((ns.getD i default).name :: L) := by
 conv => lhs; unfold pathF
 rw [if_neg h0, h]
def pathX (T : TM) (id : Int) : ByteArray := if treeOk T = true then pathF T.nodes 15 id [] else ⟨#[]⟩
theorem treeOk_first {T : TM} (h : treeOk T = true) : 0 < T.nodes.length ∧ (T.nodes.getD 0 default).id = 1 ∧ atI T.nodes 1 = 0 := by
 have h0 : 0 < T.nodes.length := by
  unfold treeOk at h
  simp only [Bool.and_eq_true, decide_eq_true_eq] at h
  omega
 have h1 := treeOk_node h h0
 unfold nodeOk at h1
 simp only [Bool.and_eq_true] at h1
 have h2 := h1.1.1.2
 rw [if_pos trivial] at h2
 unfold firstOk at h2
 simp only [Bool.and_eq_true] at h2
 have h3 : (T.nodes.getD 0 default).id = 1 := by simpa using h2.1.1.1.1
 refine ⟨h0, h3, ?_⟩
 exact atI_some (i := 0) h0 (by rw [← h3]; simp [List.getD, h0]) (fun j hj => by omega)
theorem treeOk_name {T : TM} (h : treeOk T = true) {i : Nat} (hi : i < T.nodes.length) (h1 : (T.nodes.getD i default).id ≠ 1) : nameB (T.nodes.getD i default).name = true := by
 have hn := treeOk_node h hi
 have h0 : i ≠ 0 := fun e => by rw [e] at h1; exact h1 (treeOk_first h).2.1
 unfold nodeOk at hn
 rw [decide_eq_false h0] at hn
 simp only [Bool.and_eq_true, Bool.false_or] at hn
 exact hn.2.1.1.1.1
theorem names_fit' {L : List ByteArray} (h : ∀ s ∈ L, nameB s = true) (h4 : L.length ≤ 15) : TFit L := by
 have hs : ∀ s ∈ L, s.size ≤ 8 := fun s hs => ((nameB_iff s).1 (h s hs)).2.2
 have : tsum L ≤ L.length * 8 := by
  clear h h4
  induction L with
  | nil => simp [tsum]
  | cons x L ih =>
   simp only [tsum, List.length_cons, Nat.add_mul, Nat.one_mul]
   have h1 := hs x (by simp)
   have h2 := ih (fun s h => hs s (by simp [h]))
   omega
 unfold TFit
 omega
theorem own_all9 {w : World} {g cap B n : Nat} {L : List ByteArray} (h : w.ownsRow B 9 1 (.slice (some ⟨g, 0, none⟩) n cap) n (tv L)) (hn : n = L.length) : SSee w (.slice (some ⟨g, 0, none⟩) n cap) L 0 w.heap.size := by
 have := own_part9 h (k := n) (by omega)
 rw [List.take_of_length_le (by omega)] at this
 exact this
theorem own_one9 (w : World) (v : Value) (e : TypeId) {base : Nat} (hb : base ≤ w.heap.size) : (w.alloc (.cells #[v] e)).ownsRow base e 1 (.slice (some ⟨w.heap.size, 0, none⟩) 1 1) 1 [v] := ⟨by simp, .inr ⟨w.heap.size, 1, #[v], rfl, hb, heap_alloc_new w _, Nat.le_refl _, by decide, rfl, by simp⟩⟩
def NSo (w W : World) (a : Option Addr) (n cap : Nat) (nx : Int) (g c l : Nat) (L : List ByteArray) : Prop := BX w W a n cap nx ∧ W.ownsRow (w.heap.size + 1) 9 1 (.slice (some ⟨g, 0, none⟩) l c) l (tv L)
theorem NSo.below {w W W' : World} {a : Option Addr} {n cap g c l : Nat} {nx : Int} {L : List ByteArray} (h : NSo w W a n cap nx g c l L) (hb : Below W.heap.size W W') : NSo w W' a n cap nx g c l L := ⟨h.1.below hb, h.2.kept (row := none) ⟨hb.os, hb.tape, hb.output, hb.size, fun k hk _ => hb.block k hk⟩ (Classical.em _)⟩
attribute [local irreducible] nodeOk treeOk atI joinB nameB
set_option maxHeartbeats 4000000 in
theorem specPathOf {w : World} {v : Value} {T : TM} {lo hi : Nat} (id : Int) (h : TSee w v T lo hi) (hf : NFit T) : Calls Tryz.prog 32 #[v, .int .i64 id] w fun e w' => e = .returned (.string (pathX T id)) ∧ Below w.heap.size w w' := by
 have hl : T.nodes.length ≤ 1048576 := by unfold NFit at hf; omega
 have h' := h
 obtain ⟨a, cap, rs, rfl, hr, hm⟩ := h
 obtain ⟨n, hn⟩ : ∃ n, n = rs.length := ⟨_, rfl⟩
 rw [← hn] at h' ⊢
 have HTS := Shut.mk (fun W (hW : Below w.heap.size w W) (c : Int) => specAt c (h'.below hW) hl)
 have HTO := Shut.mk (fun W (hW : Below w.heap.size w W) => specTreeOk (h'.below hW) hf)
 obtain ⟨R, hR⟩ : ∃ R, R = pathX T id := ⟨_, rfl⟩
 rw [← hR]
 unfold pathX at hR
 obtain ⟨nodes, nx⟩ := T
 dsimp only at hr HTS HTO hR
 subst hr
 have HM := Shut.mk (And.intro hm hn)
 have hn9 : n ≤ 1048576 := by dsimp only at hl; rw [nds_len] at hl; omega
 have HR := Shut.mk hR
 clear hm hf hR hn h' hl
 cases hok : treeOk ⟨nds rs, nx⟩ with
 | false =>
  have HE : Shut (R = ⟨#[]⟩) := ⟨by rw [HR.out, if_neg (by rw [hok]; decide)]⟩
  rw [hok] at HTO
  clear hok
  go_enter Tryz.func32, Tryz.ntmps32
  go_upto_region 1 with fail
  refine wp_shade (fun W => BX w W a n cap nx) (BX.new w a n cap nx 26) ?_
  intro W hg
  have HG := Shut.mk hg
  have x0 := (hg.box.2 0 _ rfl).1
  have x1 := (hg.box.2 1 _ rfl).1
  clear hg
  go_wp2_with fail
  refine (HTO.out _ HG.out.bel).mono ?_
  rintro e W1 ⟨rfl, hb1⟩
  have HG1 := Shut.mk (HG.out.below hb1)
  clear hb1
  go_wp2_with fail
  go_ret
  exact ⟨by rw [HE.out]; rfl, HG1.out.bel⟩
 | true =>
  have HRR : Shut (R = pathF (nds rs) 15 id []) := ⟨by rw [HR.out, if_pos hok]⟩
  have HOK := Shut.mk hok
  have HFI := Shut.mk (treeOk_first hok).2.2
  rw [hok] at HTO
  obtain ⟨t0, ht0, hty0, hty1, hty2⟩ := info_parts infoTextG
  clear hok HR
  go_enter Tryz.func32, Tryz.ntmps32
  go_upto_region 1 with fail
  refine wp_shade (fun W => BX w W a n cap nx) (BX.new w a n cap nx 26) ?_
  intro W hg
  have HG := Shut.mk hg
  have x0 := (hg.box.2 0 _ rfl).1
  have x1 := (hg.box.2 1 _ rfl).1
  clear hg
  go_wp2_with fail
  refine (HTO.out _ HG.out.bel).mono ?_
  rintro e W1 ⟨rfl, hb1⟩
  have HG1 := Shut.mk (HG.out.below hb1)
  clear hb1 x0 x1 HG
  go_upto_region 4 with fail
  refine wp_shade (fun W => NSo w W a n cap nx W1.heap.size 0 0 []) ⟨HG1.out.below ((Below.refl _ _).alloc (Nat.le_refl _) _), World.ownsRow_made W1 #[] 0 (by have := HG1.out.box.1; omega) (by decide) rfl⟩ ?_
  intro W2 hg2
  have HG2 := Shut.mk hg2
  clear hg2 HG1
  go_wp2_with fail
  go_loopw [1, 5, 6] (fun cv lv sv wr => ∃ (s : Nat) (c : Int) (g cp l : Nat) (L : List ByteArray), cv = .int .i64 c ∧ lv = .slice (some ⟨g, 0, none⟩) l cp ∧ sv = .int .i64 s ∧ s ≤ 15 ∧ l ≤ s ∧ Shut (l = L.length) ∧ Shut (∀ x ∈ L, nameB x = true) ∧ Shut (R = pathF (nds rs) (15 - s) c L) ∧ Shut (NSo w wr a n cap nx g cp l L)) (fun _ _ sv _ => 15 - (intOf sv).toNat)
  case atStart => exact ⟨0, id, _, 0, 0, [], rfl, rfl, rfl, by omega, by omega, ⟨rfl⟩, ⟨by simp⟩, ⟨HRR.out⟩, HG2⟩
  case round =>
   clear HG2 HRR
   obtain ⟨s, c, g, cp, l, L, rfl, rfl, rfl, hs15, hls, HLL, HNM, HC, HG⟩ := hrel
   by_cases hlt : s < 15
   ·have m1 : (s : Int) ≤ 14 := by omega
    obtain ⟨f, hf⟩ : ∃ f, f = 15 - (s + 1) := ⟨_, rfl⟩
    have hcl' := HC.out
    rw [show 15 - s = f + 1 by omega] at hcl'
    have x0 := (HG.out.1.box.2 0 _ rfl).1
    have x1 := (HG.out.1.box.2 1 _ rfl).1
    by_cases hc1 : c = 1
    ·have hc1' : (c == 1) = true := by simpa using hc1
     have HE : Shut (R = joinB L) := ⟨by rw [hcl', pathF_one hc1]⟩
     have HAT := Shut.mk (HTS.out wr HG.out.1.bel 1)
     rw [HFI.out] at HAT
     clear hcl' hf hc1 HC
     go_wp2_with fail
     refine HAT.out.mono ?_
     rintro e W6 ⟨rfl, hb6⟩
     have HG6 := Shut.mk (HG.out.below hb6)
     have HJ := Shut.mk (specJoinPath (own_all9 HG6.out.2 HLL.out) (names_fit' HNM.out (by have := HLL.out; omega)))
     clear hb6 x0 x1 HAT HG
     go_wp2_with fail
     refine HJ.out.mono ?_
     rintro e W7 ⟨rfl, hb7⟩
     have HG7 := Shut.mk (HG6.out.1.below hb7)
     clear hb7
     go_wp2_with fail
     go_ret
     exact ⟨by rw [HE.out]; rfl, HG7.out.bel⟩
    ·have hc1' : (c == 1) = false := by simpa using hc1
     have HAT := Shut.mk (HTS.out wr HG.out.1.bel c)
     rcases at_cases (nds rs) c with ⟨hat, hfn⟩ | ⟨i, hi, hat, hfn⟩
     ·have HE : Shut (R = ⟨#[]⟩) := ⟨by rw [hcl', pathF_none hc1 hfn]⟩
      rw [hat] at HAT
      clear hcl' hf hc1 HC hat hfn
      go_wp2_with fail
      refine HAT.out.mono ?_
      rintro e W6 ⟨rfl, hb6⟩
      have HG6 := Shut.mk (HG.out.1.below hb6)
      clear hb6
      go_wp2_with fail
      go_ret
      exact ⟨by rw [HE.out]; rfl, HG6.out.bel⟩
     ·have hir : i < rs.length := by rw [nds_len] at hi; exact hi
      have hidc : (((nds rs).getD i default).id == c) = true := by
       obtain ⟨h1, h2, _⟩ := List.findIdx?_eq_some_iff_getElem.1 hfn
       have : (nds rs).getD i default = (nds rs)[i] := by simp [List.getD, h1]
       rw [this]; exact h2
      have hnb : nameB rs[i].nd.name = true := by
       have := treeOk_name HOK.out (i := i) hi (by dsimp only; rw [beq_iff_eq.1 hidc]; exact hc1)
       dsimp only at this
       rw [nds_getD hir] at this
       exact this
      have HNX : Shut (R = pathF (nds rs) (15 - (s + 1)) rs[i].nd.parent (rs[i].nd.name :: L)) := ⟨by rw [hcl', pathF_some hc1 hfn, nds_getD hir, ← hf]⟩
      have HNB := Shut.mk hnb
      rw [hat] at HAT
      have i0 : (0 : Int) ≤ (i : Int) := by omega
      have i1 : (i : Int) < (n : Int) := by have := HM.out.2; omega
      have i2 : ¬ (i : Int) < 0 := by omega
      clear hcl' hf hc1 HC hat hfn hidc hnb hi
      go_wp2_with fail
      refine HAT.out.mono ?_
      rintro e W6 ⟨rfl, hb6⟩
      have HG6 := Shut.mk (HG.out.below hb6)
      clear hb6 x0 x1 HAT HG
      have x0 := (HG6.out.1.box.2 0 _ rfl).1
      obtain ⟨b, off, rfl, lb, hc⟩ := TR.nat (HM.out.1.below HG6.out.1.bel) (by omega)
      have HCC := Shut.mk (hc i hir)
      have e2 := (hc i hir).2.2.1
      clear hc
      generalize rs[i] = r at *
      have hs6 : w.heap.size + 1 ≤ W6.heap.size := by have := HG6.out.1.box.1; omega
      have ho6 := HG6.out.2
      go_wp2_with (at_builtin; refine wpList_append_own _ rfl _ _ 76 rfl (w.heap.size + 1) 9 t0 (.string ⟨#[]⟩) 1 16 Tryz.underlying76 ht0 hty0 hty1 hty2 rfl (by decide) _ 1 [.string r.nd.name] rfl (own_one9 W6 (.string r.nd.name) _ hs6) ⟨g, 0, none⟩ l cp (tv L) rfl ?c0 ?c1 ?c2 ?c3 ?c4 ?c5 ?_)
      case c0 => rw [tv_len, Nat.mul_one]; exact HLL.out.symm
      case c1 =>
       intro j u hu
       rw [show (Addr.add ⟨g, 0, none⟩ j) = ⟨g, j, none⟩ by unfold Addr.add; split <;> simp [*]]
       exact ((own_wcells (ho6.alloc _)).2 j u hu).1
      case c2 => intro u hu; obtain ⟨y, _, rfl⟩ := List.mem_map.1 hu; rfl
      case c3 => unfold maxLen; omega
      case c4 => omega
      case c5 => first | omega | (simp; omega)
      intro v' w10 ho10 hgrow _
      obtain ⟨g', cp', rfl, _⟩ := own_some9 ho10 (by omega)
      have hb10 : Below W6.heap.size W6 w10 := ((Below.refl _ _).alloc (Nat.le_refl _) _).grown hgrow ((Below.refl W6.heap.size W6).alloc (Nat.le_refl _) _).size (fun j hj => ((own_one9 W6 (.string r.nd.name) 9 (Nat.le_refl _)).lt j hj).1)
      have HGZ : Shut (NSo w w10 (some ⟨b, off, none⟩) n cap nx g' cp' (l + 1) (r.nd.name :: L)) := ⟨HG6.out.1.below hb10, by rw [Nat.add_comm l 1]; exact ho10⟩
      rw [Nat.add_comm 1 l]
      have HNM' : Shut (∀ x ∈ r.nd.name :: L, nameB x = true) := ⟨fun x hx => by
       rcases List.mem_cons.1 hx with rfl | h
       ·exact HNB.out
       ·exact HNM.out x h⟩
      have z0 := (HGZ.out.1.box.2 0 _ rfl).1
      have e1 := (HCC.out.below hb10 lb).2.1
      clear hgrow ho10 ho6 hb10 x0 e2
      go_wp2_with fail
      go_roundw
      case rel => exact ⟨s + 1, r.nd.parent, g', cp', l + 1, r.nd.name :: L, rfl, rfl, by go_num, by omega, by omega, ⟨by rw [List.length_cons, ← HLL.out]⟩, HNM', HNX, HGZ⟩
      case measure => simp [intOf]; omega
   ·have hm : s = 15 := by omega
    have HE : Shut (R = ⟨#[]⟩) := ⟨by rw [HC.out, hm]; rfl⟩
    have m1 : ¬ (s : Int) ≤ 14 := by omega
    clear hm HC
    go_wp2_with fail
    go_ret
    exact ⟨by rw [HE.out]; rfl, HG.out.1.bel⟩
end Go.Proofs.YtakhagkhngmpaaaGreat
/- ApR: . -/
namespace Go.Proofs.YtakhagkhngmpaaaGreat
set_option maxRecDepth 100000
theorem set_get {α : Type} (ns : List NM) (k i : Nat) (x : NM) (f : NM → α) (h : f x = f (ns.getD k default)) : f ((ns.set k x).getD i default) = f (ns.getD i default) := by
 by_cases e : i = k
 ·subst e
  by_cases hi : i < ns.length
  ·have : (ns.set i x).getD i default = x := by simp [List.getD_eq_getElem?_getD, hi]
   rw [this, h]
  ·rw [List.set_eq_of_length_le (by omega)]
 ·have : (ns.set k x)[i]? = ns[i]? := by rw [List.getElem?_set]; simp [Ne.symm e]
  rw [List.getD_eq_getElem?_getD, List.getD_eq_getElem?_getD, this]
theorem set_find (ns : List NM) (k : Nat) (x : NM) (h : x.id = (ns.getD k default).id) (id : Int) : (ns.set k x).findIdx? (fun n => n.id == id) = ns.findIdx? (fun n => n.id == id) := by
 have hm : (ns.set k x).map NM.id = ns.map NM.id := by
  apply List.ext_getElem?
  intro i
  rw [List.getElem?_map, List.getElem?_map, List.getElem?_set]
  split
  ·rename_i e
   subst e
   by_cases hk : k < ns.length
   ·simp [hk, h, List.getD_eq_getElem?_getD]
   ·simp [hk]
  ·rfl
 have e1 : ∀ l : List NM, l.findIdx? (fun n => n.id == id) = (l.map NM.id).findIdx? (· == id) := fun l => by rw [List.findIdx?_map]; rfl
 rw [e1, e1, hm]
theorem set_at (ns : List NM) (k : Nat) (x : NM) (h : x.id = (ns.getD k default).id) (id : Int) : atI (ns.set k x) id = atI ns id := by
 unfold atI
 rw [set_find ns k x h id]
theorem set_climbs (ns : List NM) (k : Nat) (x : NM) (h : x.id = (ns.getD k default).id) (hp : x.parent = (ns.getD k default).parent) (f : Nat) (id : Int) : climbs (ns.set k x) f id = climbs ns f id := by
 induction f generalizing id with
 | zero => rfl
 | succ f ih =>
  unfold climbs
  rw [set_find ns k x h id]
  cases ns.findIdx? (fun n => n.id == id) with
  | none => rfl
  | some j =>
   dsimp only
   rw [set_get ns k j x NM.parent hp, ih]
theorem setN_ok {T : TM} {k : Nat} {x : NM} (h : treeOk T = true) (h1 : x.id = (ndAt T k).id) (h2 : x.parent = (ndAt T k).parent) (h3 : x.name = (ndAt T k).name) (h4 : x.dir = (ndAt T k).dir)
  (h5 : (if x.dir then dirOk x else fileOk x) = true) (h6 : k = 0 → x.schema ≠ 0) : treeOk (setN T k x) = true := by
 unfold ndAt at h1 h2 h3 h4
 unfold treeOk at h ⊢
 simp only [Bool.and_eq_true, decide_eq_true_eq, List.all_eq_true, List.mem_range] at h ⊢
 obtain ⟨⟨⟨a1, a2⟩, a3⟩, a4⟩ := h
 have hl : (setN T k x).nodes.length = T.nodes.length := by simp [setN]
 rw [hl]
 refine ⟨⟨⟨a1, a2⟩, a3⟩, fun i hi => ?_⟩
 have hn := a4 i hi
 unfold nodeOk at hn ⊢
 show (decide (((T.nodes.set k x).getD i default).id < T.next) && (if i = 0 then firstOk ((T.nodes.set k x).getD i default) else decide (((T.nodes.set k x).getD (i - 1) default).id < ((T.nodes.set k x).getD i default).id)) &&
  (if ((T.nodes.set k x).getD i default).dir then dirOk ((T.nodes.set k x).getD i default) else fileOk ((T.nodes.set k x).getD i default)) &&
  (decide (i = 0) || (nameB ((T.nodes.set k x).getD i default).name && decide (0 ≤ atI (T.nodes.set k x) ((T.nodes.set k x).getD i default).parent) && ((T.nodes.set k x).getD (atI (T.nodes.set k x) ((T.nodes.set k x).getD i default).parent).toNat default).dir &&
   (List.range i).all (fun j => ! ((((T.nodes.set k x).getD j default).parent == ((T.nodes.set k x).getD i default).parent) && decide (((T.nodes.set k x).getD j default).name = ((T.nodes.set k x).getD i default).name))) && climbs (T.nodes.set k x) 4 ((T.nodes.set k x).getD i default).id))) = true
 have g1 : ∀ j, ((T.nodes.set k x).getD j default).id = (T.nodes.getD j default).id := fun j => set_get T.nodes k j x NM.id h1
 have g2 : ∀ j, ((T.nodes.set k x).getD j default).parent = (T.nodes.getD j default).parent := fun j => set_get T.nodes k j x NM.parent h2
 have g3 : ∀ j, ((T.nodes.set k x).getD j default).name = (T.nodes.getD j default).name := fun j => set_get T.nodes k j x NM.name h3
 have g4 : ∀ j, ((T.nodes.set k x).getD j default).dir = (T.nodes.getD j default).dir := fun j => set_get T.nodes k j x NM.dir h4
 simp only [g1, g2, g3, g4, set_at T.nodes k x h1, set_climbs T.nodes k x h1 h2]
 by_cases e : i = k
 ·have hx : (T.nodes.set k x).getD i default = x := by rw [e]; simp [List.getD_eq_getElem?_getD, e ▸ hi]
  rw [hx]
  simp only [Bool.and_eq_true] at hn ⊢
  obtain ⟨⟨⟨b1, b2⟩, b3⟩, b4⟩ := hn
  refine ⟨⟨⟨b1, ?_⟩, ?_⟩, b4⟩
  ·by_cases e0 : i = 0
   ·rw [if_pos e0] at b2 ⊢
    unfold firstOk at b2 ⊢
    simp only [Bool.and_eq_true] at b2 ⊢
    rw [e] at b2
    rw [h1, h2, h3, h4]
    exact ⟨b2.1, by simpa using h6 (e ▸ e0)⟩
   ·rw [if_neg e0] at b2 ⊢
    exact b2
  ·rw [e, ← h4]
   exact h5
 ·have hx : (T.nodes.set k x).getD i default = T.nodes.getD i default := by
   rw [List.getD_eq_getElem?_getD, List.getD_eq_getElem?_getD, List.getElem?_set]
   simp [Ne.symm e]
  rw [hx]
  exact hn
end Go.Proofs.YtakhagkhngmpaaaGreat
