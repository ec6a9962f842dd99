/- Texts of ours, laid one behind the other: TreS, TreT, TreU, TreW, TreX, TreN, TreJ, TreK, TreY. -/
import Derived.Test.YthfmjjaollekiaaPzTreR
import Derived.Test.YthfmjjaollekiaaPz3
/- TreS: The walks of the models' TreeOk and TreeNew. -/
namespace Go.Proofs.Ythfmjjaollekiaa
set_option maxRecDepth 100000
open Go.RowKit
attribute [local go_sem ↓] Go.wp_at_zero Go.wp_at_succ
attribute [local irreducible] nodeOk

theorem treeOk_len {T : TM} (h : inI (T.nodes.length : Int) 1 14 = false) : treeOk T = false := by
  unfold treeOk
  unfold inI at h
  have : (decide (1 ≤ T.nodes.length) && decide (T.nodes.length ≤ 14)) = false := by
    rw [← h]
    congr 1
    · exact decide_eq_decide.2 ⟨fun h => by omega, fun h => by omega⟩
    · exact decide_eq_decide.2 ⟨fun h => by omega, fun h => by omega⟩
  rw [this]; rfl
theorem treeOk_next {T : TM} (h : ¬ T.next ≤ 100000) : treeOk T = false := by unfold treeOk; rw [decide_eq_false h]; simp
theorem treeOk_no {T : TM} {k : Nat} (hk : k < T.nodes.length) (h : nodeOk T k = false) : treeOk T = false := by
  have : (List.range T.nodes.length).all (nodeOk T) = false := by
    cases e : (List.range T.nodes.length).all (nodeOk T) with
    | false => rfl
    | true => rw [List.all_eq_true] at e; rw [e k (List.mem_range.2 hk)] at h; cases h
  unfold treeOk; rw [this]; simp
theorem treeOk_yes {T : TM} (h1 : inI (T.nodes.length : Int) 1 14 = true) (h2 : T.next ≤ 100000) (h3 : ∀ k, k < T.nodes.length → nodeOk T k = true) : treeOk T = true := by
  rw [inI_iff] at h1
  unfold treeOk
  rw [decide_eq_true (show 1 ≤ T.nodes.length by omega), decide_eq_true (show T.nodes.length ≤ 14 by omega), decide_eq_true h2, show (List.range T.nodes.length).all (nodeOk T) = true from List.all_eq_true.2 (fun k hk => h3 k (List.mem_range.1 hk))]; rfl
set_option maxRecDepth 100000 in
set_option maxHeartbeats 2000000 in
theorem specTreeOk {w : World} {v : Value} {T : TM} {lo hi : Nat} (h : TSee w v T lo hi) (hf : NFit T) : Calls Try.prog 28 #[v] w fun e w' => e = .returned (.bool (treeOk T)) ∧ Below w.heap.size w w' := by
  obtain ⟨a, cap, rs, rfl, hr, hm⟩ := h
  obtain ⟨n, hn⟩ : ∃ n, n = rs.length := ⟨_, rfl⟩
  have hnl : n = T.nodes.length := by rw [hn, ← hr, nds_len]
  have hp : ∀ r ∈ rs, r.nd.pieces.length ≤ 1048576 ∧ r.nd.name.size ≤ 1048576 := fun r hx => by
    have := nsum_mem (ns := T.nodes) (n := r.nd) (by rw [← hr]; exact List.mem_map.2 ⟨r, hx, rfl⟩)
    unfold NFit at hf
    omega
  have hn9 : n ≤ 1048576 := by unfold NFit at hf; omega
  obtain ⟨R, hR⟩ : ∃ R, R = treeOk T := ⟨_, rfl⟩
  have HR := Shut.mk hR
  obtain ⟨nodes, nx⟩ := T
  dsimp only at hr hnl
  subst hr
  rw [← hR, ← hn]
  have HM := Shut.mk (And.intro hm (And.intro hp (And.intro hn hnl)))
  obtain ⟨W, hW⟩ : ∃ W, W = w.alloc (.cells #[.slice a n cap, .int .i64 nx] 26) := ⟨_, rfl⟩
  have HB : Shut (Below w.heap.size w W) := ⟨by rw [hW]; exact (Below.refl _ _).alloc (Nat.le_refl _) _⟩
  have HX : Shut (WCells W w.heap.size [.slice a n cap, .int .i64 nx]) := ⟨by rw [hW]; exact wcells_new w #[.slice a n cap, .int .i64 nx] 26⟩
  have x0 := (HX.out.2 0 _ rfl).1
  have x1 := (HX.out.2 1 _ rfl).1
  clear hm hp hf hR hn hnl
  cases h1 : inI (n : Int) 1 14 with
  | false =>
    have HE : Shut (R = false) := ⟨by rw [HR.out]; exact treeOk_len (by rw [← HM.out.2.2.2]; exact h1)⟩
    go_enter Try.func28, Try.ntmps28
    go_upto_region 1 with fail
    rw [← hW]
    clear hW
    go_wp2_with fail
    refine (isInI (n : Int) 1 14 _ false h1).mono ?_
    rintro e w1 ⟨rfl, hw1⟩
    obtain rfl : W = w1 := hw1.symm
    clear hw1
    go_wp2_with fail
    go_ret
    exact ⟨by rw [HE.out]; rfl, HB.out⟩
  | true =>
    have hn14 := (inI_iff.1 h1).2
    by_cases h2 : nx ≤ 100000
    case neg =>
      have h2' : (100000 : Int) < nx := by omega
      have HE : Shut (R = false) := ⟨by rw [HR.out]; exact treeOk_next h2⟩
      go_enter Try.func28, Try.ntmps28
      go_upto_region 1 with fail
      rw [← hW]
      clear hW
      go_wp2_with fail
      refine (isInI (n : Int) 1 14 _ true h1).mono ?_
      rintro e w1 ⟨rfl, hw1⟩
      obtain rfl : W = w1 := hw1.symm
      clear hw1
      go_wp2_with fail
      go_ret
      exact ⟨by rw [HE.out]; rfl, HB.out⟩
    have h2' : ¬ (100000 : Int) < nx := by omega
    have HY := Shut.mk (fun (q : ∀ k, k < n → nodeOk ⟨nds rs, nx⟩ k = true) => HR.out.trans (treeOk_yes (T := ⟨nds rs, nx⟩) (by show inI ((nds rs).length : Int) 1 14 = true; rw [← HM.out.2.2.2]; exact h1) h2 (fun k hk => q k (by rw [HM.out.2.2.2]; exact hk))))
    have HNO := Shut.mk (fun (k : Nat) (hk : k < n) (q : nodeOk ⟨nds rs, nx⟩ k = false) => HR.out.trans (treeOk_no (T := ⟨nds rs, nx⟩) (by show k < (nds rs).length; rw [← HM.out.2.2.2]; exact hk) q))
    have HND := Shut.mk (fun (W : World) (hW : Below w.heap.size w W) (k : Nat) (hk : k < n) => specNode (cap := cap) (nx := nx) k (HM.out.1.below hW) (by rw [← HM.out.2.2.1]; exact hk) (by rw [← HM.out.2.2.1]; omega) HM.out.2.1)
    rw [← HM.out.2.2.1] at HND
    go_enter Try.func28, Try.ntmps28
    go_upto_region 1 with fail
    rw [← hW]
    clear hW
    go_wp2_with fail
    refine (isInI (n : Int) 1 14 _ true h1).mono ?_
    rintro e w1 ⟨rfl, hw1⟩
    obtain rfl : W = w1 := hw1.symm
    clear hw1 h1 x0 x1
    have x0 := (HX.out.2 0 _ rfl).1
    have x1 := (HX.out.2 1 _ rfl).1
    go_wp2_with fail
    go_loopw [3] (fun i wr => ∃ (k : Nat), i = .int .i64 k ∧ k ≤ n ∧ Shut (∀ j, j < k → nodeOk ⟨nds rs, nx⟩ j = true) ∧ Shut (Below W.heap.size W wr)) (fun i _ => n - (intOf i).toNat)
    case atStart => exact ⟨0, rfl, Nat.zero_le _, ⟨fun j hj => by omega⟩, ⟨Below.refl _ _⟩⟩
    case round =>
      clear x0 x1
      obtain ⟨k, rfl, hk, hall, hb⟩ := hrel
      have x0 := ((HX.out.grow hb.out).2 0 _ rfl).1
      have x1 := ((HX.out.grow hb.out).2 1 _ rfl).1
      by_cases hlt : k < n
      · have k1 : (k : Int) < (n : Int) := by omega
        have HC := Shut.mk (HND.out wr (HB.out.trans (hb.out.mono HB.out.size)) k hlt)
        cases hok : nodeOk ⟨nds rs, nx⟩ k with
        | false =>
          have HE := Shut.mk (HNO.out k hlt hok)
          rw [hok] at HC
          clear hok
          go_wp2_with fail
          refine HC.out.mono ?_
          rintro e w2 ⟨rfl, hb2⟩
          have HB2 := Shut.mk (HB.out.trans ((hb.out.trans (hb2.mono hb.out.size)).mono HB.out.size))
          clear hb2
          go_wp2_with fail
          go_ret
          exact ⟨by rw [HE.out]; rfl, HB2.out⟩
        | true =>
          have HAL : Shut (∀ j, j < k + 1 → nodeOk ⟨nds rs, nx⟩ j = true) := ⟨fun j hj => by
            by_cases e : j = k
            · subst e; exact hok
            · exact hall.out j (by omega)⟩
          rw [hok] at HC
          clear hok hall
          go_wp2_with fail
          refine HC.out.mono ?_
          rintro e w2 ⟨rfl, hb2⟩
          have HB2 := Shut.mk (hb.out.trans (hb2.mono hb.out.size))
          clear hb2
          go_wp2_with fail
          go_roundw
          case rel => exact ⟨k + 1, by go_num, by omega, HAL, HB2⟩
          case measure => simp [intOf]; omega
      · have k1 : ¬ (k : Int) < (n : Int) := by omega
        have HE := Shut.mk (HY.out (fun j hj => hall.out j (by omega)))
        go_wp2_with fail
        go_ret
        exact ⟨by rw [HE.out]; rfl, HB.out.trans (hb.out.mono HB.out.size)⟩
end Go.Proofs.Ythfmjjaollekiaa
/- TreT: The walks of the models' l10Below and SchemaAt. -/
namespace Go.Proofs.Ythfmjjaollekiaa
set_option maxRecDepth 100000
open Go.RowKit
attribute [local go_sem ↓] Go.wp_at_zero Go.wp_at_succ
attribute [local irreducible] nodeOk treeOk atI

/-- Is a node another one, or below it (so many steps up)? -/
def belowF (ns : List NM) : Nat → Int → Int → Bool
  | 0, _, _ => false
  | f + 1, id, top => if id = top then true else match ns.findIdx? (fun n => n.id == id) with
    | none => false
    | some k => belowF ns f (ns.getD k default).parent top
theorem belowF_same {ns : List NM} {f : Nat} {c top : Int} (h : c = top) : belowF ns (f + 1) c top = true := by
  conv => lhs; unfold belowF
  rw [if_pos h]
theorem belowF_none {ns : List NM} {f : Nat} {c top : Int} (h0 : c ≠ top) (h : ns.findIdx? (fun n => n.id == c) = none) : belowF ns (f + 1) c top = false := by
  conv => lhs; unfold belowF
  rw [if_neg h0, h]
theorem belowF_some {ns : List NM} {f i : Nat} {c top : Int} (h0 : c ≠ top) (h : ns.findIdx? (fun n => n.id == c) = some i) : belowF ns (f + 1) c top = belowF ns f (ns.getD i default).parent top := by
  conv => lhs; unfold belowF
  rw [if_neg h0, h]
/-- The schema of a node, or of the next one up that has one. -/
def schemaF (ns : List NM) : Nat → Int → Int
  | 0, _ => 0
  | f + 1, id => match ns.findIdx? (fun n => n.id == id) with
    | none => 0
    | some k => if (ns.getD k default).schema ≠ 0 then (ns.getD k default).schema else schemaF ns f (ns.getD k default).parent
theorem schemaF_none {ns : List NM} {f : Nat} {c : Int} (h : ns.findIdx? (fun n => n.id == c) = none) : schemaF ns (f + 1) c = 0 := by
  conv => lhs; unfold schemaF
  rw [h]
theorem schemaF_some {ns : List NM} {f i : Nat} {c : Int} (h : ns.findIdx? (fun n => n.id == c) = some i) : schemaF ns (f + 1) c = if (ns.getD i default).schema ≠ 0 then (ns.getD i default).schema else schemaF ns f (ns.getD i default).parent := by
  conv => lhs; unfold schemaF
  rw [h]
def schemaAtX (T : TM) (id : Int) : Int := if treeOk T = true then schemaF T.nodes 15 id else 0
/-- Where a node is, or that it is nowhere, as it is found. -/
theorem at_cases (ns : List NM) (id : Int) : (atI ns id = -1 ∧ ns.findIdx? (fun n => n.id == id) = none) ∨ ∃ i, i < ns.length ∧ atI ns id = (i : Int) ∧ ns.findIdx? (fun n => n.id == id) = some i := by
  unfold atI
  cases h : ns.findIdx? (fun n => n.id == id) with
  | none => exact .inl ⟨rfl, rfl⟩
  | some i =>
    obtain ⟨hi, _⟩ := List.findIdx?_eq_some_iff_getElem.1 h
    exact .inr ⟨i, hi, rfl, rfl⟩
/-- A tree that was handed over, in its box. -/
structure BX (w W : World) (a : Option Addr) (n cap : Nat) (nx : Int) : Prop where
  bel : Below w.heap.size w W
  box : WCells W w.heap.size [.slice a n cap, .int .i64 nx]
theorem BX.below {w W W' : World} {a : Option Addr} {n cap : Nat} {nx : Int} (h : BX w W a n cap nx) (hb : Below W.heap.size W W') : BX w W' a n cap nx := ⟨h.bel.trans (hb.mono h.bel.size), h.box.grow hb⟩
theorem BX.new (w : World) (a : Option Addr) (n cap : Nat) (nx : Int) (t : TypeId) : BX w (w.alloc (.cells #[.slice a n cap, .int .i64 nx] t)) a n cap nx := ⟨(Below.refl _ _).alloc (Nat.le_refl _) _, wcells_new w #[.slice a n cap, .int .i64 nx] t⟩
set_option maxRecDepth 100000 in
set_option maxHeartbeats 2000000 in
theorem specBelow {w : World} {v : Value} {T : TM} {lo hi : Nat} (id top : Int) (h : TSee w v T lo hi) (hf : NFit T) : Calls Try.prog 49 #[v, .int .i64 id, .int .i64 top] w fun e w' => e = .returned (.bool (belowF T.nodes 15 id top)) ∧ Below w.heap.size w w' := by
  have hl : T.nodes.length ≤ 1048576 := by unfold NFit at hf; omega
  have h' := h
  obtain ⟨a, cap, rs, rfl, hr, hm⟩ := h
  obtain ⟨n, hn⟩ : ∃ n, n = rs.length := ⟨_, rfl⟩
  rw [← hn] at h' ⊢
  have HTS := Shut.mk (fun W (hW : Below w.heap.size w W) (c : Int) => specAt c (h'.below hW) hl)
  obtain ⟨R, hR⟩ : ∃ R, R = belowF T.nodes 15 id top := ⟨_, rfl⟩
  have HR := Shut.mk hR
  rw [← hR]
  obtain ⟨nodes, nx⟩ := T
  dsimp only at hr HTS
  subst hr
  have HM := Shut.mk (And.intro hm hn)
  have hn9 : n ≤ 1048576 := by dsimp only at hl; rw [nds_len] at hl; omega
  clear hm hf hR hn h' hl
  go_enter Try.func49, Try.ntmps49
  go_upto_region 1 with fail
  refine wp_shade (fun W => BX w W a n cap nx) (BX.new w a n cap nx 26) ?_
  intro W hg
  have HG := Shut.mk hg
  clear hg
  go_wp2_with fail
  go_loopw [1, 7] (fun iv mv wr => ∃ (m : Nat) (c : Int), iv = .int .i64 c ∧ mv = .int .i64 m ∧ m ≤ 15 ∧ Shut (R = belowF (nds rs) (15 - m) c top) ∧ Shut (BX w wr a n cap nx)) (fun _ mv _ => 15 - (intOf mv).toNat)
  case atStart => exact ⟨0, id, rfl, rfl, by omega, ⟨HR.out⟩, HG⟩
  case round =>
    clear HG
    obtain ⟨m, c, rfl, rfl, hm15, hcl, HG⟩ := hrel
    by_cases hlt : m < 15
    · have m1 : (m : Int) ≤ 14 := by omega
      obtain ⟨f, hf⟩ : ∃ f, f = 15 - (m + 1) := ⟨_, rfl⟩
      have hcl' := hcl.out
      rw [show 15 - m = f + 1 by omega] at hcl'
      by_cases he : c = top
      · have he' : (c == top) = true := by simpa using he
        have HE : Shut (R = true) := ⟨by rw [hcl', belowF_same he]⟩
        clear he hcl' hcl hf
        go_wp2_with fail
        go_ret
        exact ⟨by rw [HE.out]; rfl, HG.out.bel⟩
      · have he' : (c == top) = false := by simpa using he
        have x0 := (HG.out.box.2 0 _ rfl).1
        have x1 := (HG.out.box.2 1 _ rfl).1
        have HAT := Shut.mk (HTS.out wr HG.out.bel c)
        rcases at_cases (nds rs) c with ⟨hat, hfn⟩ | ⟨i, hi, hat, hfn⟩
        · have HE : Shut (R = false) := ⟨by rw [hcl', belowF_none he hfn]⟩
          rw [hat] at HAT
          clear he hcl' hcl hf hfn hat
          go_wp2_with fail
          refine HAT.out.mono ?_
          rintro e W6 ⟨rfl, hb6⟩
          have HG6 := Shut.mk (HG.out.below hb6)
          clear hb6
          go_wp2_with fail
          go_ret
          exact ⟨by rw [HE.out]; rfl, HG6.out.bel⟩
        · have hir : i < rs.length := by rw [nds_len] at hi; exact hi
          have HNX : Shut (R = belowF (nds rs) (15 - (m + 1)) rs[i].nd.parent top) := ⟨by rw [hcl', belowF_some he hfn, nds_getD hir, ← hf]⟩
          rw [hat] at HAT
          have i0 : (0 : Int) ≤ (i : Int) := by omega
          have i1 : (i : Int) < (n : Int) := by have := HM.out.2; omega
          have i2 : ¬ (i : Int) < 0 := by omega
          clear he hcl' hcl hf hfn hat hi
          go_wp2_with fail
          refine HAT.out.mono ?_
          rintro e W6 ⟨rfl, hb6⟩
          have HG6 := Shut.mk (HG.out.below hb6)
          clear hb6 x0 x1 HAT
          have x0 := (HG6.out.box.2 0 _ rfl).1
          obtain ⟨b, off, rfl, lb, hc⟩ := TR.nat (HM.out.1.below HG6.out.bel) (by omega)
          have e1 := (hc i hir).2.1
          clear hc
          generalize rs[i].nd.parent = pp at *
          go_wp2_with fail
          go_roundw
          case rel => exact ⟨m + 1, pp, rfl, by go_num, by omega, HNX, HG6⟩
          case measure => simp [intOf]; omega
    · have hm : m = 15 := by omega
      have HE : Shut (R = false) := ⟨by rw [hcl.out, hm]; rfl⟩
      have m1 : ¬ (m : Int) ≤ 14 := by omega
      clear hm hcl
      go_wp2_with fail
      go_ret
      exact ⟨by rw [HE.out]; rfl, HG.out.bel⟩
end Go.Proofs.Ythfmjjaollekiaa
/- TreU: The walk of the model's SchemaAt. -/
namespace Go.Proofs.Ythfmjjaollekiaa
set_option maxRecDepth 100000
open Go.RowKit
attribute [local go_sem ↓] Go.wp_at_zero Go.wp_at_succ
attribute [local irreducible] nodeOk treeOk atI

set_option maxRecDepth 100000 in
set_option maxHeartbeats 2000000 in
theorem specSchemaAt {w : World} {v : Value} {T : TM} {lo hi : Nat} (id : Int) (h : TSee w v T lo hi) (hf : NFit T) : Calls Try.prog 108 #[v, .int .i64 id] w fun e w' => e = .returned (.int .i64 (schemaAtX T id)) ∧ Below w.heap.size w w' := by
  have hl : T.nodes.length ≤ 1048576 := by unfold NFit at hf; omega
  have h' := h
  obtain ⟨a, cap, rs, rfl, hr, hm⟩ := h
  obtain ⟨n, hn⟩ : ∃ n, n = rs.length := ⟨_, rfl⟩
  rw [← hn] at h' ⊢
  have HTS := Shut.mk (fun W (hW : Below w.heap.size w W) (c : Int) => specAt c (h'.below hW) hl)
  have HTO := Shut.mk (fun W (hW : Below w.heap.size w W) => specTreeOk (h'.below hW) hf)
  obtain ⟨R, hR⟩ : ∃ R, R = schemaAtX T id := ⟨_, rfl⟩
  rw [← hR]
  unfold schemaAtX at hR
  obtain ⟨nodes, nx⟩ := T
  dsimp only at hr HTS HTO hR
  subst hr
  have HM := Shut.mk (And.intro hm hn)
  have hn9 : n ≤ 1048576 := by dsimp only at hl; rw [nds_len] at hl; omega
  have HR := Shut.mk hR
  clear hm hf hR hn h' hl
  cases hok : treeOk ⟨nds rs, nx⟩ with
  | false =>
    have HE : Shut (R = 0) := ⟨by rw [HR.out, if_neg (by rw [hok]; decide)]⟩
    rw [hok] at HTO
    clear hok
    go_enter Try.func108, Try.ntmps108
    go_upto_region 1 with fail
    refine wp_shade (fun W => BX w W a n cap nx) (BX.new w a n cap nx 26) ?_
    intro W hg
    have HG := Shut.mk hg
    have x0 := (hg.box.2 0 _ rfl).1
    have x1 := (hg.box.2 1 _ rfl).1
    clear hg
    go_wp2_with fail
    refine (HTO.out _ HG.out.bel).mono ?_
    rintro e W1 ⟨rfl, hb1⟩
    have HG1 := Shut.mk (HG.out.below hb1)
    clear hb1
    go_wp2_with fail
    go_ret
    exact ⟨by rw [HE.out]; rfl, HG1.out.bel⟩
  | true =>
    have HRR : Shut (R = schemaF (nds rs) 15 id) := ⟨by rw [HR.out, if_pos hok]⟩
    rw [hok] at HTO
    clear hok HR
    go_enter Try.func108, Try.ntmps108
    go_upto_region 1 with fail
    refine wp_shade (fun W => BX w W a n cap nx) (BX.new w a n cap nx 26) ?_
    intro W hg
    have HG := Shut.mk hg
    have x0 := (hg.box.2 0 _ rfl).1
    have x1 := (hg.box.2 1 _ rfl).1
    clear hg
    go_wp2_with fail
    refine (HTO.out _ HG.out.bel).mono ?_
    rintro e W1 ⟨rfl, hb1⟩
    have HG1 := Shut.mk (HG.out.below hb1)
    clear hb1 x0 x1 HG
    go_wp2_with fail
    go_loopw [1, 5] (fun iv mv wr => ∃ (m : Nat) (c : Int), iv = .int .i64 c ∧ mv = .int .i64 m ∧ m ≤ 15 ∧ Shut (R = schemaF (nds rs) (15 - m) c) ∧ Shut (BX w wr a n cap nx)) (fun _ mv _ => 15 - (intOf mv).toNat)
    case atStart => exact ⟨0, id, rfl, rfl, by omega, ⟨HRR.out⟩, HG1⟩
    case round =>
      clear HG1
      obtain ⟨m, c, rfl, rfl, hm15, hcl, HG⟩ := hrel
      by_cases hlt : m < 15
      · have m1 : (m : Int) ≤ 14 := by omega
        obtain ⟨f, hf⟩ : ∃ f, f = 15 - (m + 1) := ⟨_, rfl⟩
        have hcl' := hcl.out
        rw [show 15 - m = f + 1 by omega] at hcl'
        have x0 := (HG.out.box.2 0 _ rfl).1
        have x1 := (HG.out.box.2 1 _ rfl).1
        have HAT := Shut.mk (HTS.out wr HG.out.bel c)
        rcases at_cases (nds rs) c with ⟨hat, hfn⟩ | ⟨i, hi, hat, hfn⟩
        · have HE : Shut (R = 0) := ⟨by rw [hcl', schemaF_none hfn]⟩
          rw [hat] at HAT
          clear hcl' hcl hf hfn hat
          go_wp2_with fail
          refine HAT.out.mono ?_
          rintro e W6 ⟨rfl, hb6⟩
          have HG6 := Shut.mk (HG.out.below hb6)
          clear hb6
          go_wp2_with fail
          go_ret
          exact ⟨by rw [HE.out]; rfl, HG6.out.bel⟩
        · have hir : i < rs.length := by rw [nds_len] at hi; exact hi
          have HNX : Shut (R = if rs[i].nd.schema ≠ 0 then rs[i].nd.schema else schemaF (nds rs) (15 - (m + 1)) rs[i].nd.parent) := ⟨by rw [hcl', schemaF_some hfn, nds_getD hir, ← hf]⟩
          rw [hat] at HAT
          have i0 : (0 : Int) ≤ (i : Int) := by omega
          have i1 : (i : Int) < (n : Int) := by have := HM.out.2; omega
          have i2 : ¬ (i : Int) < 0 := by omega
          clear hcl' hcl hf hfn hat hi
          go_wp2_with fail
          refine HAT.out.mono ?_
          rintro e W6 ⟨rfl, hb6⟩
          have HG6 := Shut.mk (HG.out.below hb6)
          clear hb6 x0 x1 HAT
          have x0 := (HG6.out.box.2 0 _ rfl).1
          obtain ⟨b, off, rfl, lb, hc⟩ := TR.nat (HM.out.1.below HG6.out.bel) (by omega)
          have e1 := (hc i hir).2.1
          have e4 := (hc i hir).2.2.2.2.1
          clear hc
          generalize rs[i].nd.parent = pp at *
          generalize rs[i].nd.schema = ss at *
          by_cases hs : ss = 0
          · have hs' : (ss != 0) = false := by simpa using hs
            have HN2 : Shut (R = schemaF (nds rs) (15 - (m + 1)) pp) := ⟨by rw [HNX.out, if_neg (by simpa using hs)]⟩
            clear hs HNX
            go_wp2_with fail
            go_roundw
            case rel => exact ⟨m + 1, pp, rfl, by go_num, by omega, HN2, HG6⟩
            case measure => simp [intOf]; omega
          · have hs' : (ss != 0) = true := by simpa using hs
            have HE : Shut (R = ss) := ⟨by rw [HNX.out, if_pos hs]⟩
            clear hs HNX
            go_wp2_with fail
            go_ret
            exact ⟨by rw [HE.out]; rfl, HG6.out.bel⟩
      · have hm : m = 15 := by omega
        have HE : Shut (R = 0) := ⟨by rw [hcl.out, hm]; rfl⟩
        have m1 : ¬ (m : Int) ≤ 14 := by omega
        clear hm hcl
        go_wp2_with fail
        go_ret
        exact ⟨by rw [HE.out]; rfl, HG.out.bel⟩
end Go.Proofs.Ythfmjjaollekiaa
/- TreW: The walk of the model's BelowOf. -/
namespace Go.Proofs.Ythfmjjaollekiaa
set_option maxRecDepth 100000
open Go.RowKit
attribute [local go_sem ↓] Go.wp_at_zero Go.wp_at_succ
attribute [local irreducible] nodeOk treeOk atI belowF

/-- The nodes of a row that are another one, or below it. -/
def belowL (all ns : List NM) (id : Int) : List Int := (ns.filter fun n => belowF all 15 n.id id).map NM.id
theorem belowL_snoc (all ns : List NM) (n : NM) (id : Int) : belowL all (ns ++ [n]) id = belowL all ns id ++ if belowF all 15 n.id id = true then [n.id] else [] := by
  unfold belowL
  rw [List.filter_append, List.map_append]
  congr 1
  cases h : belowF all 15 n.id id <;> simp [h]
theorem belowL_len (all ns : List NM) (id : Int) : (belowL all ns id).length ≤ ns.length := by
  unfold belowL
  rw [List.length_map]
  exact List.length_filter_le _ _
def belowX (T : TM) (id : Int) : List Int := if treeOk T = true ∧ 0 ≤ atI T.nodes id then belowL T.nodes T.nodes id else []
theorem ics_snoc9 (xs : List Int) (x : Int) : ics xs ++ [.int .i64 x] = ics (xs ++ [x]) := by simp [ics]
theorem own_wider9 {w : World} {B C n sz : Nat} {t : TypeId} {v : Value} {L : List Value} (h : w.ownsRow B t sz v n L) (hC : C ≤ B) : w.ownsRow C t sz v n L := by
  obtain ⟨h1, h | ⟨g, cap, cur, e, hB, rest⟩⟩ := h
  · exact ⟨h1, .inl h⟩
  · exact ⟨h1, .inr ⟨g, cap, cur, e, Nat.le_trans hC hB, rest⟩⟩
theorem BX.grown {w W W' : World} {a : Option Addr} {n cap : Nat} {nx : Int} {q : Option Nat} (h : BX w W a n cap nx) (hg : W.grownBy W' q) (hq : ∀ k, q = some k → w.heap.size + 1 ≤ k) : BX w W' a n cap nx := by
  have hb : Below (w.heap.size + 1) W W' := (Below.refl _ _).grown hg (by have := h.box.1; omega) hq
  exact ⟨h.bel.trans (hb.mono (by omega)), h.box.below hb (by omega)⟩
theorem belowL_zero (all ns : List NM) (id : Int) : belowL all (ns.take 0) id = [] := by simp [belowL]
attribute [local irreducible] belowL
set_option maxRecDepth 100000 in
set_option maxHeartbeats 4000000 in
theorem specBelowOf {w : World} {v : Value} {T : TM} {lo hi : Nat} (id : Int) (h : TSee w v T lo hi) (hf : NFit T) : Calls Try.prog 32 #[v, .int .i64 id] w fun e w' => IPost (belowX T id) w e w' := by
  have hl : T.nodes.length ≤ 1048576 := by unfold NFit at hf; omega
  have h' := h
  obtain ⟨a, cap, rs, rfl, hr, hm⟩ := h
  obtain ⟨n, hn⟩ : ∃ n, n = rs.length := ⟨_, rfl⟩
  rw [← hn] at h' ⊢
  have HTS := Shut.mk (fun W (hW : Below w.heap.size w W) (c : Int) => specAt c (h'.below hW) hl)
  have HTB := Shut.mk (fun W (hW : Below w.heap.size w W) (c : Int) => specBelow c id (h'.below hW) hf)
  have HTO := Shut.mk (fun W (hW : Below w.heap.size w W) => specTreeOk (h'.below hW) hf)
  obtain ⟨R, hR⟩ : ∃ R, R = belowX T id := ⟨_, rfl⟩
  rw [← hR]
  unfold belowX at hR
  obtain ⟨nodes, nx⟩ := T
  dsimp only at hr HTS HTB HTO hR
  subst hr
  have HM := Shut.mk (And.intro hm hn)
  have hn9 : n ≤ 1048576 := by dsimp only at hl; rw [nds_len] at hl; omega
  have HR := Shut.mk hR
  clear hm hf hR hn h' hl
  cases hok : treeOk ⟨nds rs, nx⟩ with
  | false =>
    have HE : Shut (R = []) := ⟨by rw [HR.out, if_neg (by rw [hok]; simp)]⟩
    rw [hok] at HTO
    clear hok
    go_enter Try.func32, Try.ntmps32
    go_upto_region 1 with fail
    refine wp_shade (fun W => BX w W a n cap nx) (BX.new w a n cap nx 26) ?_
    intro W hg
    have HG := Shut.mk hg
    have x0 := (hg.box.2 0 _ rfl).1
    have x1 := (hg.box.2 1 _ rfl).1
    clear hg
    go_wp2_with fail
    refine (HTO.out _ HG.out.bel).mono ?_
    rintro e W1 ⟨rfl, hb1⟩
    have HG1 := Shut.mk (HG.out.below hb1)
    clear hb1
    go_wp2_with fail
    go_ret
    exact ⟨_, rfl, own_ians (n := 0) (by rw [HE.out, List.length_nil]) (by rw [HE.out]; exact World.ownsRow_made W1 #[] 0 HG1.out.bel.size (by decide) rfl), HG1.out.bel.alloc HG1.out.bel.size _⟩
  | true =>
    rw [hok] at HTO
    rcases at_cases (nds rs) id with ⟨hat, _⟩ | ⟨i0, hi0, hat, _⟩
    · have HE : Shut (R = []) := ⟨by rw [HR.out, if_neg (by rw [hat]; simp)]⟩
      clear hok
      go_enter Try.func32, Try.ntmps32
      go_upto_region 1 with fail
      refine wp_shade (fun W => BX w W a n cap nx) (BX.new w a n cap nx 26) ?_
      intro W hg
      have HG := Shut.mk hg
      have x0 := (hg.box.2 0 _ rfl).1
      have x1 := (hg.box.2 1 _ rfl).1
      clear hg
      go_wp2_with fail
      refine (HTO.out _ HG.out.bel).mono ?_
      rintro e W1 ⟨rfl, hb1⟩
      have HG1 := Shut.mk (HG.out.below hb1)
      clear hb1 x0 x1 HG
      go_upto_region 4 with fail
      refine wp_shade (fun W => BX w W a n cap nx ∧ W.ownsRow (w.heap.size + 1) 3 1 (.slice (some ⟨W1.heap.size, 0, none⟩) 0 0) 0 []) ⟨HG1.out.below ((Below.refl _ _).alloc (Nat.le_refl _) _), World.ownsRow_made W1 #[] 0 (by have := HG1.out.box.1; omega) (by decide) rfl⟩ ?_
      rintro W2 ⟨hg2, ho2⟩
      have HG2 := Shut.mk (And.intro hg2 ho2)
      have x0 := (hg2.box.2 0 _ rfl).1
      have x1 := (hg2.box.2 1 _ rfl).1
      have HAT := Shut.mk (HTS.out W2 hg2.bel id)
      rw [hat] at HAT
      clear hg2 ho2 HG1 hat
      go_wp2_with fail
      refine HAT.out.mono ?_
      rintro e W3 ⟨rfl, hb3⟩
      have HG3 := Shut.mk (And.intro (HG2.out.1.below hb3) (HG2.out.2.kept (row := none) ⟨hb3.os, hb3.tape, hb3.output, hb3.size, fun k hk _ => hb3.block k hk⟩ (Classical.em _)))
      clear hb3
      go_wp2_with fail
      go_ret
      exact ⟨_, rfl, own_ians (n := 0) (by rw [HE.out, List.length_nil]) (by rw [HE.out]; exact own_wider9 HG3.out.2 (by omega)), HG3.out.1.bel⟩
    · have HRR : Shut (R = belowL (nds rs) (nds rs) id) := ⟨by rw [HR.out, if_pos ⟨hok, by omega⟩]⟩
      obtain ⟨t0, ht0, hty0, hty1, hty2⟩ := info_parts infoIntG
      clear hok HR
      go_enter Try.func32, Try.ntmps32
      go_upto_region 1 with fail
      refine wp_shade (fun W => BX w W a n cap nx) (BX.new w a n cap nx 26) ?_
      intro W hg
      have HG := Shut.mk hg
      have x0 := (hg.box.2 0 _ rfl).1
      have x1 := (hg.box.2 1 _ rfl).1
      clear hg
      go_wp2_with fail
      refine (HTO.out _ HG.out.bel).mono ?_
      rintro e W1 ⟨rfl, hb1⟩
      have HG1 := Shut.mk (HG.out.below hb1)
      clear hb1 x0 x1 HG
      go_upto_region 4 with fail
      refine wp_shade (fun W => BX w W a n cap nx ∧ W.ownsRow (w.heap.size + 1) 3 1 (.slice (some ⟨W1.heap.size, 0, none⟩) 0 0) 0 []) ⟨HG1.out.below ((Below.refl _ _).alloc (Nat.le_refl _) _), World.ownsRow_made W1 #[] 0 (by have := HG1.out.box.1; omega) (by decide) rfl⟩ ?_
      rintro W2 ⟨hg2, ho2⟩
      have HG2 := Shut.mk (And.intro hg2 ho2)
      have x0 := (hg2.box.2 0 _ rfl).1
      have x1 := (hg2.box.2 1 _ rfl).1
      have HAT := Shut.mk (HTS.out W2 hg2.bel id)
      rw [hat] at HAT
      have i2 : ¬ (i0 : Int) < 0 := by omega
      clear hg2 ho2 HG1 hat
      go_wp2_with fail
      refine HAT.out.mono ?_
      rintro e W3 ⟨rfl, hb3⟩
      have HG3 := Shut.mk (And.intro (HG2.out.1.below hb3) (HG2.out.2.kept (row := none) ⟨hb3.os, hb3.tape, hb3.output, hb3.size, fun k hk _ => hb3.block k hk⟩ (Classical.em _)))
      clear hb3 x0 x1 HG2 HAT
      have x0 := (HG3.out.1.box.2 0 _ rfl).1
      go_wp2_with fail
      go_loopw [5, 6] (fun ov iv wr => ∃ (k l : Nat) (vv : Value), vv = ov ∧ iv = .int .i64 k ∧ k ≤ n ∧ l ≤ k ∧ Shut (l = (belowL (nds rs) ((nds rs).take k) id).length) ∧ Shut (BX w wr a n cap nx ∧ wr.ownsRow (w.heap.size + 1) 3 1 vv l (ics (belowL (nds rs) ((nds rs).take k) id)))) (fun _ iv _ => n - (intOf iv).toNat)
      case atStart => exact ⟨0, 0, _, rfl, rfl, Nat.zero_le _, Nat.le_refl _, ⟨by rw [belowL_zero, List.length_nil]⟩, ⟨by rw [belowL_zero]; exact HG3.out⟩⟩
      case round =>
        clear HG3 x0
        obtain ⟨k, l, ov, rfl, rfl, hk, hlk, HL, HG⟩ := hrel
        obtain ⟨wo, rfl⟩ : ∃ wo, wo = wr := ⟨_, rfl⟩
        have x0 := (HG.out.1.box.2 0 _ rfl).1
        have x1 := (HG.out.1.box.2 1 _ rfl).1
        by_cases hlt : k < n
        · have hkr : k < rs.length := by have := HM.out.2; omega
          have k0 : (0 : Int) ≤ (k : Int) := by omega
          have k1 : (k : Int) < (n : Int) := by omega
          obtain ⟨b, off, rfl, lb, hc⟩ := TR.nat (HM.out.1.below HG.out.1.bel) (by omega)
          have HC := Shut.mk (hc k hkr)
          have e0 := (hc k hkr).1
          have hst : (nds rs).take (k + 1) = (nds rs).take k ++ [rs[k].nd] := by
            rw [List.take_succ_eq_append_getElem (by rw [nds_len]; exact hkr), nds_at rs k hkr]
          have HBC := Shut.mk (fun W (hW : Below wo.heap.size wo W) => HTB.out W (HG.out.1.bel.trans (hW.mono HG.out.1.bel.size)) rs[k].nd.id)
          have hbs := belowL_snoc (nds rs) ((nds rs).take k) rs[k].nd id
          rw [← hst] at hbs
          have HBS := Shut.mk hbs
          clear hc hst hbs
          generalize rs[k] = r at *
          have hwl : w.heap.size < wo.heap.size := HG.out.1.box.1
          cases hbf : belowF (nds rs) 15 r.nd.id id with
          | false =>
            rw [hbf] at HBC HBS
            have HB' : Shut (belowL (nds rs) ((nds rs).take (k + 1)) id = belowL (nds rs) ((nds rs).take k) id) := ⟨by rw [HBS.out]; simp⟩
            clear hbf HBS
            go_wp2_with fail
            go_region_held3 (fun w' => w'.cell? ⟨w.heap.size, 0, none⟩ = some (.slice (some ⟨b, off, none⟩) n cap) ∧ w'.cell? ⟨w.heap.size, 1, none⟩ = some (.int .i64 nx) ∧ w'.cell? ⟨b, off + k * 9, none⟩ = some (.int .i64 r.nd.id))
              (first | go_keep | (refine ⟨?_, ?_, ?_⟩ <;> first | (rw [hb9.cell (by exact hwl)]; simp [*]; done) | (rw [hb9.cell (by exact lb)]; simp [*]; done)))
              ((go_at_call 49; refine (HBC.out _ (by first | exact Below.refl _ _ | exact Below.drew (Below.refl _ _))).mono ?_; rintro e w9 ⟨rfl, hb9⟩))
            all_goals
              have hb : Below wo.heap.size wo w9 := by first | exact (Below.drew (Below.refl _ _)).trans hb9 | exact hb9
              have HGN := Shut.mk (And.intro (HG.out.1.below hb) (HG.out.2.kept (row := none) ⟨hb.os, hb.tape, hb.output, hb.size, fun k hk _ => hb.block k hk⟩ (Classical.em _)))
              clear hb hb9
              go_wp2_with fail
              go_roundw
              case rel => exact ⟨k + 1, l, ov, rfl, by go_num, by omega, by omega, ⟨by rw [HB'.out]; exact HL.out⟩, ⟨by rw [HB'.out]; exact HGN.out⟩⟩
              case measure => simp [intOf]; omega
          | true =>
            rw [hbf] at HBC HBS
            have HB' : Shut (belowL (nds rs) ((nds rs).take (k + 1)) id = belowL (nds rs) ((nds rs).take k) id ++ [r.nd.id]) := ⟨by rw [HBS.out]; simp⟩
            clear hbf HBS
            go_wp2_with fail
            go_region_held3 (fun w' => w'.cell? ⟨w.heap.size, 0, none⟩ = some (.slice (some ⟨b, off, none⟩) n cap) ∧ w'.cell? ⟨w.heap.size, 1, none⟩ = some (.int .i64 nx) ∧ w'.cell? ⟨b, off + k * 9, none⟩ = some (.int .i64 r.nd.id))
              (first | go_keep | (refine ⟨?_, ?_, ?_⟩ <;> first | (rw [hb9.cell (by exact hwl)]; simp [*]; done) | (rw [hb9.cell (by exact lb)]; simp [*]; done)))
              ((go_at_call 49; refine (HBC.out _ (by first | exact Below.refl _ _ | exact Below.drew (Below.refl _ _))).mono ?_; rintro e w9 ⟨rfl, hb9⟩))
            all_goals
              have hb : Below wo.heap.size wo w9 := by first | exact (Below.drew (Below.refl _ _)).trans hb9 | exact hb9
              have HGN := Shut.mk (And.intro (HG.out.1.below hb) (HG.out.2.kept (row := none) ⟨hb.os, hb.tape, hb.output, hb.size, fun k hk _ => hb.block k hk⟩ (Classical.em _)))
              have z0 := (HGN.out.1.box.2 0 _ rfl).1
              have f0 := ((HC.out.below hb lb)).1
              have hs9 : w.heap.size + 1 ≤ w9.heap.size := by have := HGN.out.1.box.1; omega
              have ho9 := HGN.out.2
              clear hb hb9 x0 x1 e0
              go_wp2_with (at_builtin; refine wpList_append_own _ rfl _ _ 32 rfl (w.heap.size + 1) 3 t0 (.int .i64 0) 1 8 Try.underlying32 ht0 hty0 hty1 hty2 rfl (by decide) _ _ _ rfl (ho9.alloc _) ⟨w9.heap.size, 0, none⟩ 1 1 [.int .i64 r.nd.id] rfl rfl (cell_one_new _ _ _) ?c2 ?c3 ?c4 ?c5 ?_)
              case c2 => first | rfl | (intro u hu; simp at hu; subst hu; rfl)
              case c3 => unfold maxLen; omega
              case c4 => omega
              case c5 => first | omega | (simp; omega)
              intro v' w10 ho10 hgrow _
              rw [ics_snoc9, ← HB'.out] at ho10
              have HGZ := Shut.mk (And.intro ((HGN.out.1.below ((Below.refl _ _).alloc (Nat.le_refl _) _)).grown hgrow (fun j hj => (ho9.lt j hj).1)) ho10)
              clear hgrow ho10 ho9
              go_wp2_with fail
              go_roundw
              case rel => exact ⟨k + 1, l + 1, v', rfl, by go_num, by omega, by omega, ⟨by rw [HB'.out, List.length_append, List.length_singleton, ← HL.out]⟩, HGZ⟩
              case measure => simp [intOf]; omega
        · have k1 : ¬ (k : Int) < (n : Int) := by omega
          have hall : (nds rs).take k = nds rs := List.take_of_length_le (by rw [nds_len]; have := HM.out.2; omega)
          have ho := HG.out.2
          have hlen := HL.out
          rw [hall, ← HRR.out] at ho
          rw [hall, ← HRR.out] at hlen
          have HF := Shut.mk (And.intro hlen ho)
          clear hall ho hlen
          go_wp2_with fail
          go_ret
          exact ⟨ov, rfl, own_ians HF.out.1.symm (own_wider9 HF.out.2 (by omega)), HG.out.1.bel⟩
end Go.Proofs.Ythfmjjaollekiaa
/- TreX: The walk of the model's UsedBelow. -/
namespace Go.Proofs.Ythfmjjaollekiaa
set_option maxRecDepth 100000
open Go.RowKit
attribute [local go_sem ↓] Go.wp_at_zero Go.wp_at_succ

/-- What nodes of these numbers use. -/
def usedL (ns : List NM) : List Int → Int
  | [] => 0
  | x :: xs => (ns.getD (atI ns x).toNat default).len + usedL ns xs
theorem usedL_append (ns : List NM) (xs ys : List Int) : usedL ns (xs ++ ys) = usedL ns xs + usedL ns ys := by
  induction xs with
  | nil => simp [usedL]
  | cons x xs ih => simp only [List.cons_append, usedL, ih]; omega
theorem usedL_take (ns : List NM) (xs : List Int) (k : Nat) (h : k < xs.length) : usedL ns (xs.take (k + 1)) = usedL ns (xs.take k) + (ns.getD (atI ns xs[k]).toNat default).len := by
  rw [List.take_succ_eq_append_getElem h, usedL_append]
  simp [usedL]
def usedX (T : TM) (id : Int) : Int := usedL T.nodes (belowX T id)
theorem fileOk_len {n : NM} (h : fileOk n = true) : 0 ≤ n.len ∧ n.len ≤ 1000 := by
  unfold fileOk at h
  simp only [Bool.and_eq_true, beq_iff_eq, decide_eq_true_eq, List.all_eq_true] at h
  obtain ⟨⟨⟨_, h5⟩, h6⟩, h7⟩ := h
  have := (sumP_ok h5).1
  omega
theorem dirOk_len {n : NM} (h : dirOk n = true) : n.len = 0 := by
  unfold dirOk at h
  simp only [Bool.and_eq_true, beq_iff_eq] at h
  exact h.1.1.2
theorem nodeOk_len {T : TM} {i : Nat} (h : nodeOk T i = true) : 0 ≤ (T.nodes.getD i default).len ∧ (T.nodes.getD i default).len ≤ 1000 := by
  unfold nodeOk at h
  simp only [Bool.and_eq_true] at h
  have h3 := h.1.2
  split at h3
  · have := dirOk_len h3; omega
  · exact fileOk_len h3
theorem treeOk_node {T : TM} (h : treeOk T = true) {i : Nat} (hi : i < T.nodes.length) : nodeOk T i = true := by
  unfold treeOk at h
  simp only [Bool.and_eq_true, List.all_eq_true] at h
  exact h.2 i (List.mem_range.2 hi)
theorem treeOk_14 {T : TM} (h : treeOk T = true) : T.nodes.length ≤ 14 := by
  unfold treeOk at h
  simp only [Bool.and_eq_true, decide_eq_true_eq] at h
  exact h.1.1.2
theorem belowX_mem {T : TM} {id x : Int} (h : x ∈ belowX T id) : treeOk T = true ∧ ∃ n ∈ T.nodes, n.id = x := by
  unfold belowX at h
  split at h
  · rename_i hc
    refine ⟨hc.1, ?_⟩
    unfold belowL at h
    obtain ⟨n, hn, rfl⟩ := List.mem_map.1 h
    exact ⟨n, (List.mem_filter.1 hn).1, rfl⟩
  · simp at h
theorem belowX_at {T : TM} {id x : Int} (h : x ∈ belowX T id) : ∃ i, i < T.nodes.length ∧ atI T.nodes x = (i : Int) ∧ 0 ≤ (T.nodes.getD i default).len ∧ (T.nodes.getD i default).len ≤ 1000 := by
  obtain ⟨hok, n, hn, hid⟩ := belowX_mem h
  rcases at_cases T.nodes x with ⟨_, hno⟩ | ⟨i, hi, hat, _⟩
  · have := List.findIdx?_eq_none_iff.1 hno n hn
    simp [hid] at this
  · exact ⟨i, hi, hat, nodeOk_len (treeOk_node hok hi)⟩
theorem belowX_len (T : TM) (id : Int) : (belowX T id).length ≤ 14 := by
  unfold belowX
  split
  · rename_i hc
    have := belowL_len T.nodes T.nodes id
    have := treeOk_14 hc.1
    omega
  · simp
attribute [local irreducible] nodeOk treeOk atI belowF belowL belowX
set_option maxRecDepth 100000 in
set_option maxHeartbeats 4000000 in
theorem specUsedBelow {w : World} {v : Value} {T : TM} {lo hi : Nat} (id : Int) (h : TSee w v T lo hi) (hf : NFit T) : Calls Try.prog 30 #[v, .int .i64 id] w fun e w' => e = .returned (.int .i64 (usedX T id)) ∧ Below w.heap.size w w' := by
  have hl : T.nodes.length ≤ 1048576 := by unfold NFit at hf; omega
  have h' := h
  obtain ⟨a, cap, rs, rfl, hr, hm⟩ := h
  obtain ⟨n, hn⟩ : ∃ n, n = rs.length := ⟨_, rfl⟩
  rw [← hn] at h' ⊢
  have HTS := Shut.mk (fun W (hW : Below w.heap.size w W) (c : Int) => specAt c (h'.below hW) hl)
  have HBO := Shut.mk (fun W (hW : Below w.heap.size w W) => specBelowOf id (h'.below hW) hf)
  obtain ⟨R, hR⟩ : ∃ R, R = usedX T id := ⟨_, rfl⟩
  rw [← hR]
  unfold usedX at hR
  have HAT := Shut.mk (fun x (hx : x ∈ belowX T id) => belowX_at hx)
  have hbl := belowX_len T id
  obtain ⟨B, hB⟩ : ∃ B, B = belowX T id := ⟨_, rfl⟩
  rw [← hB] at HBO HAT hbl hR
  obtain ⟨nodes, nx⟩ := T
  dsimp only at hr HTS HBO hR HAT
  subst hr
  have HM := Shut.mk (And.intro hm hn)
  have hn9 : n ≤ 1048576 := by dsimp only at hl; rw [nds_len] at hl; omega
  have HR := Shut.mk hR
  obtain ⟨l, hle⟩ : ∃ l, l = B.length := ⟨_, rfl⟩
  have HL := Shut.mk hle
  rw [← hle] at hbl
  clear hm hf hR hn h' hl hB hle
  go_enter Try.func30, Try.ntmps30
  go_upto_region 1 with fail
  refine wp_shade (fun W => BX w W a n cap nx) (BX.new w a n cap nx 26) ?_
  intro W hg
  have HG := Shut.mk hg
  have x0 := (hg.box.2 0 _ rfl).1
  have x1 := (hg.box.2 1 _ rfl).1
  clear hg
  go_wp2_with fail
  refine (HBO.out _ HG.out.bel).mono ?_
  rintro e W1 ⟨bv, rfl, hia, hb1⟩
  obtain ⟨ba', bc, rfl, _, hq⟩ := hia
  have hrow : CRow W1 ba' (ics B) := by
    rcases hq with e | ⟨g, rfl, _, _, hw⟩
    · rw [e]; intro h; simp [ics] at h
    · exact hw.crow
  have HG1 := Shut.mk (And.intro (HG.out.below hb1) hrow)
  rw [← HL.out]
  clear hb1 hq hrow x0 x1 HG
  go_wp2_with fail
  go_loopw [6, 7] (fun sv iv wr => ∃ (k : Nat) (z : Int), sv = .int .i64 z ∧ iv = .int .i64 k ∧ k ≤ l ∧ 0 ≤ z ∧ z ≤ 1000 * k ∧ Shut (z = usedL (nds rs) (B.take k)) ∧ Shut (BX w wr a n cap nx ∧ CRow wr ba' (ics B))) (fun _ iv _ => l - (intOf iv).toNat)
  case atStart => exact ⟨0, 0, rfl, rfl, Nat.zero_le _, by omega, by omega, ⟨by simp [usedL]⟩, HG1⟩
  case round =>
    clear HG1
    obtain ⟨k, z, rfl, rfl, hk, hz0, hz1, HZ, HG⟩ := hrel
    by_cases hlt : k < l
    · have hkb : k < B.length := by have := HL.out; omega
      have k0 : (0 : Int) ≤ (k : Int) := by omega
      have k1 : (k : Int) < (l : Int) := by omega
      have x0 := (HG.out.1.box.2 0 _ rfl).1
      have x1 := (HG.out.1.box.2 1 _ rfl).1
      have hwl : w.heap.size < wr.heap.size := HG.out.1.box.1
      obtain ⟨bb, bo, rfl, blt, hbc⟩ := HG.out.2 (by rw [ics_len]; omega)
      have hx : B[k] ∈ B := List.getElem_mem hkb
      have y0 := hbc k (.int .i64 B[k]) (by simp [ics, hkb])
      obtain ⟨i, hi, hat, hn0, hn1⟩ := HAT.out B[k] hx
      have hir : i < rs.length := by rw [nds_len] at hi; exact hi
      have hst := usedL_take (nds rs) B k hkb
      rw [hat, Int.toNat_natCast, nds_getD hir] at hst
      rw [nds_getD hir] at hn0 hn1
      have HST := Shut.mk hst
      have i0 : (0 : Int) ≤ (i : Int) := by omega
      have i1 : (i : Int) < (n : Int) := by have := HM.out.2; omega
      obtain ⟨b, off, rfl, lb, hc⟩ := TR.nat (HM.out.1.below HG.out.1.bel) (by omega)
      have e6 := (hc i hir).2.2.2.2.2.2.1
      have HCL := Shut.mk (fun W (hW : Below wr.heap.size wr W) => HTS.out W (HG.out.1.bel.trans (hW.mono HG.out.1.bel.size)) B[k])
      rw [hat] at HCL
      have hwz : IntKind.i64.wrap (z + rs[i].nd.len) = z + rs[i].nd.len := IntWalk.i64_in _ ⟨by omega, by omega⟩
      clear hbc hc hst hat hi hx
      generalize rs[i].nd.len = q at *
      generalize B[k] = x at *
      go_wp2_with fail
      go_region_held3 (fun w' => w'.cell? ⟨w.heap.size, 0, none⟩ = some (.slice (some ⟨b, off, none⟩) n cap) ∧ w'.cell? ⟨w.heap.size, 1, none⟩ = some (.int .i64 nx) ∧ w'.cell? ⟨bb, bo + k, none⟩ = some (.int .i64 x) ∧ w'.cell? ⟨b, off + i * 9 + 6, none⟩ = some (.int .i64 q))
        (first | go_keep | (refine ⟨?_, ?_, ?_, ?_⟩ <;> first | (rw [hb9.cell (by exact hwl)]; simp [*]; done) | (rw [hb9.cell (by exact lb)]; simp [*]; done) | (rw [hb9.cell (by exact blt)]; simp [*]; done)))
        ((go_at_call 29; refine (HCL.out _ (by first | exact Below.refl _ _ | exact Below.drew (Below.refl _ _))).mono ?_; rintro e w9 ⟨rfl, hb9⟩))
      all_goals
        have hb : Below wr.heap.size wr w9 := by first | exact (Below.drew (Below.refl _ _)).trans hb9 | exact hb9
        have HGN := Shut.mk (And.intro (HG.out.1.below hb) (HG.out.2.stays hb))
        clear hb hb9
        go_wp2_with fail
        go_roundw
        case rel => exact ⟨k + 1, z + q, rfl, by go_num, by omega, by omega, by push_cast; omega, ⟨by rw [HST.out, HZ.out]⟩, HGN⟩
        case measure => simp [intOf]; omega
    · have k1 : ¬ (k : Int) < (l : Int) := by omega
      have HE : Shut (R = z) := ⟨by rw [HR.out, HZ.out, List.take_of_length_le (by have := HL.out; omega)]⟩
      go_wp2_with fail
      go_ret
      exact ⟨by rw [HE.out]; rfl, HG.out.1.bel⟩
end Go.Proofs.Ythfmjjaollekiaa
/- TreN: The walk of the model's FindPath. -/
namespace Go.Proofs.Ythfmjjaollekiaa
set_option maxRecDepth 100000
open Go.RowKit
attribute [local go_sem ↓] Go.wp_at_zero Go.wp_at_succ

/-- One node looked at, for a name below another one: the first found stays. -/
def kidS (c : Int) (nm : ByteArray) (z : Int) (n : NM) : Int := if n.parent = c ∧ n.name = nm ∧ z = 0 then n.id else z
def kidF (ns : List NM) (c : Int) (nm : ByteArray) : Int := ns.foldl (kidS c nm) 0
theorem kid_take (ns : List NM) (c : Int) (nm : ByteArray) (k : Nat) (h : k < ns.length) : (ns.take (k + 1)).foldl (kidS c nm) 0 = kidS c nm ((ns.take k).foldl (kidS c nm) 0) ns[k] := by
  rw [List.take_succ_eq_append_getElem h, List.foldl_append]
  rfl
/-- Down the names. -/
def findF (ns : List NM) : List ByteArray → Int → Int
  | [], c => c
  | p :: ps, c => if kidF ns c p = 0 then 0 else findF ns ps (kidF ns c p)
theorem findF_step (ns : List NM) (L : List ByteArray) (j : Nat) (c : Int) (h : j < L.length) : findF ns (L.drop j) c = if kidF ns c (L.getD j ⟨#[]⟩) = 0 then 0 else findF ns (L.drop (j + 1)) (kidF ns c (L.getD j ⟨#[]⟩)) := by
  rw [List.drop_eq_getElem_cons h]
  conv => lhs; unfold findF
  simp [List.getD, h]
def findX (T : TM) (p : ByteArray) : Int := if (splitB p).2 = true ∧ 0 ≤ atI T.nodes 1 then findF T.nodes (splitB p).1 1 else 0
theorem own_crow9 {w : World} {B n : Nat} {t : TypeId} {a : Option Addr} {c : Nat} {L : List Value} (h : w.ownsRow B t 1 (.slice a n c) n L) (hn : n = L.length) : CRow w a L := by
  rcases Nat.eq_zero_or_pos n with h0 | hp
  · intro q
    omega
  · obtain ⟨g, cap, e, _⟩ := own_some9 h hp
    have e1 : a = some ⟨g, 0, none⟩ := by injection e
    subst e1
    exact (own_wcells h).crow
attribute [local irreducible] nodeOk treeOk atI
set_option maxRecDepth 100000 in
set_option maxHeartbeats 4000000 in
theorem specFindPath {w : World} {v : Value} {T : TM} {lo hi : Nat} (p : ByteArray) (h : TSee w v T lo hi) (hf : NFit T) (hp : p.size ≤ 1048576) : Calls Try.prog 85 #[v, .string p] w fun e w' => e = .returned (.int .i64 (findX T p)) ∧ Below w.heap.size w w' := by
  have hl : T.nodes.length ≤ 1048576 := by unfold NFit at hf; omega
  have h' := h
  obtain ⟨a, cap, rs, rfl, hr, hm⟩ := h
  obtain ⟨n, hn⟩ : ∃ n, n = rs.length := ⟨_, rfl⟩
  rw [← hn] at h' ⊢
  have HTS := Shut.mk (fun W (hW : Below w.heap.size w W) => specAt 1 (h'.below hW) hl)
  have HSP := Shut.mk (fun W => specSplitPath p W hp)
  have hnm := splitB_names p
  unfold OPost at HSP
  obtain ⟨R, hR⟩ : ∃ R, R = findX T p := ⟨_, rfl⟩
  rw [← hR]
  unfold findX at hR
  obtain ⟨L, ok, hre⟩ : ∃ L ok, splitB p = (L, ok) := ⟨_, _, rfl⟩
  rw [hre] at HSP hnm hR
  obtain ⟨nodes, nx⟩ := T
  dsimp only at hr HTS hR HSP hnm
  subst hr
  have HM := Shut.mk (And.intro hm hn)
  have hn9 : n ≤ 1048576 := by dsimp only at hl; rw [nds_len] at hl; omega
  have hl4 := hnm.2
  have HR := Shut.mk hR
  obtain ⟨l, hle⟩ : ∃ l, l = L.length := ⟨_, rfl⟩
  have HL := Shut.mk hle
  rw [← hle] at HSP hl4
  clear hm hf hR hn h' hl hre hnm hle hp
  cases ok with
  | false =>
    have HE : Shut (R = 0) := ⟨by rw [HR.out, if_neg (by simp)]⟩
    go_enter Try.func85, Try.ntmps85
    go_upto_region 1 with fail
    refine wp_shade (fun W => BX w W a n cap nx) (BX.new w a n cap nx 26) ?_
    intro W hg
    have HG := Shut.mk hg
    clear hg
    go_wp2_with fail
    refine (HSP.out _).mono ?_
    rintro e W1 ⟨sv, rfl, ho, hb1⟩
    obtain ⟨sa, sc, rfl⟩ := own_form9 ho
    have HG1 := Shut.mk (HG.out.below hb1)
    clear hb1 ho
    go_wp2_with fail
    go_ret
    exact ⟨by rw [HE.out]; rfl, HG1.out.bel⟩
  | true =>
    go_enter Try.func85, Try.ntmps85
    go_upto_region 1 with fail
    refine wp_shade (fun W => BX w W a n cap nx) (BX.new w a n cap nx 26) ?_
    intro W hg
    have HG := Shut.mk hg
    clear hg
    go_wp2_with fail
    refine (HSP.out _).mono ?_
    rintro e W1 ⟨sv, rfl, ho, hb1⟩
    obtain ⟨sa, sc, rfl⟩ := own_form9 ho
    have HG1 := Shut.mk (And.intro (HG.out.below hb1) (own_crow9 ho (by rw [tv_len]; exact HL.out)))
    have x0 := (HG1.out.1.box.2 0 _ rfl).1
    have x1 := (HG1.out.1.box.2 1 _ rfl).1
    clear hb1 ho HG HSP
    have HAT := Shut.mk (HTS.out W1 HG1.out.1.bel)
    rcases at_cases (nds rs) 1 with ⟨hat, _⟩ | ⟨i, _, hat, _⟩
    · have HE : Shut (R = 0) := ⟨by rw [HR.out, if_neg (by rw [hat]; simp)]⟩
      rw [hat] at HAT
      clear hat
      go_wp2_with fail
      refine HAT.out.mono ?_
      rintro e W2 ⟨rfl, hb2⟩
      have HG2 := Shut.mk (HG1.out.1.below hb2)
      clear hb2
      go_wp2_with fail
      go_ret
      exact ⟨by rw [HE.out]; rfl, HG2.out.bel⟩
    · have HRF : Shut (R = findF (nds rs) L 1) := ⟨by rw [HR.out, if_pos ⟨trivial, by rw [hat]; omega⟩]⟩
      rw [hat] at HAT
      have i2 : ¬ (i : Int) < 0 := by omega
      clear hat HR
      go_wp2_with fail
      refine HAT.out.mono ?_
      rintro e W2 ⟨rfl, hb2⟩
      have HG2 := Shut.mk (And.intro (HG1.out.1.below hb2) (HG1.out.2.stays hb2))
      clear hb2 x0 x1 HAT HG1
      go_wp2_with fail
      go_loopw [7, 8] (fun cv jv wr => ∃ (j : Nat) (c : Int), cv = .int .i64 c ∧ jv = .int .i64 j ∧ j ≤ l ∧ Shut (R = findF (nds rs) (L.drop j) c) ∧ Shut (BX w wr a n cap nx ∧ CRow wr sa (tv L))) (fun _ jv _ => l - (intOf jv).toNat)
      case atStart => exact ⟨0, 1, rfl, rfl, Nat.zero_le _, ⟨by rw [HRF.out]; rfl⟩, HG2⟩
      case round =>
        clear HG2 HRF
        obtain ⟨j, c, rfl, rfl, hj, HC, HG⟩ := hrel
        by_cases hlt : j < l
        · have hjl : j < L.length := by have := HL.out; omega
          have j0 : (0 : Int) ≤ (j : Int) := by omega
          have j1 : (j : Int) < (l : Int) := by omega
          have HST := Shut.mk (HC.out.trans (findF_step (nds rs) L j c hjl))
          have HPT := Shut.mk (tv_get L j hjl)
          obtain ⟨x, hx⟩ : ∃ x, x = L.getD j ⟨#[]⟩ := ⟨_, rfl⟩
          rw [← hx] at HST HPT
          clear hx
          go_wp2_with fail
          go_loopw [9, 10] (fun zv kv wq => ∃ (k : Nat) (z : Int), zv = .int .i64 z ∧ kv = .int .i64 k ∧ k ≤ n ∧ Shut (z = ((nds rs).take k).foldl (kidS c x) 0) ∧ Shut (BX w wq a n cap nx ∧ CRow wq sa (tv L))) (fun _ kv _ => n - (intOf kv).toNat)
          case atStart => exact ⟨0, 0, rfl, rfl, Nat.zero_le _, ⟨by simp⟩, HG⟩
          case round =>
            clear HG
            obtain ⟨k, z, rfl, rfl, hk, HZ, HQ⟩ := hrel
            have x0 := (HQ.out.1.box.2 0 _ rfl).1
            have x1 := (HQ.out.1.box.2 1 _ rfl).1
            by_cases hkn : k < n
            · have hkr : k < rs.length := by have := HM.out.2; omega
              have hkd : k < (nds rs).length := by rw [nds_len]; exact hkr
              have k0 : (0 : Int) ≤ (k : Int) := by omega
              have k1 : (k : Int) < (n : Int) := by omega
              have HSK := Shut.mk (kid_take (nds rs) c x k hkd)
              rw [← HZ.out, nds_at rs k hkr] at HSK
              obtain ⟨b, off, rfl, lb, hc⟩ := TR.nat (HM.out.1.below HQ.out.1.bel) (by omega)
              have e0 := (hc k hkr).1
              have e1 := (hc k hkr).2.1
              have e2 := (hc k hkr).2.2.1
              obtain ⟨pb, po, rfl, plt, hpc⟩ := HQ.out.2 (by rw [tv_len]; omega)
              have y0 := hpc j _ HPT.out
              have HND : Shut (∀ q, BX w (wr.drewN q) (some ⟨b, off, none⟩) n cap nx ∧ CRow (wr.drewN q) (some ⟨pb, po, none⟩) (tv L)) := ⟨fun q => ⟨HQ.out.1.below ⟨rfl, rfl, rfl, Nat.le_refl _, fun _ _ => rfl⟩, HQ.out.2.stays ⟨rfl, rfl, rfl, Nat.le_refl _, fun _ _ => rfl⟩⟩⟩
              clear hc hpc
              unfold kidS at HSK
              generalize rs[k] = r at *
              by_cases p1 : r.nd.parent = c
              · have p1' : (r.nd.parent == c) = true := by simpa using p1
                by_cases p2 : r.nd.name = x
                · have p2' : (r.nd.name.toList == x.toList) = true := by rw [p2]; simp
                  by_cases p3 : z = 0
                  · have p3' : (z == 0) = true := by simpa using p3
                    have HN : Shut (r.nd.id = ((nds rs).take (k + 1)).foldl (kidS c x) 0) := ⟨by
                      have := HSK.out
                      rw [if_pos ⟨p1, p2, p3⟩] at this
                      exact this.symm⟩
                    clear p1 p2 p3 HSK HZ HQ
                    go_wp2_with fail
                    go_quiet (fail)
                    go_wp2_with fail
                    go_roundw
                    case rel => exact ⟨k + 1, r.nd.id, rfl, by go_num, by omega, HN, ⟨HND.out _⟩⟩
                    case measure => simp [intOf]; omega
                  · have p3' : (z == 0) = false := by simpa using p3
                    have HN : Shut (z = ((nds rs).take (k + 1)).foldl (kidS c x) 0) := ⟨by
                      have := HSK.out
                      rw [if_neg (fun q => p3 q.2.2)] at this
                      exact this.symm⟩
                    clear p1 p2 p3 HSK HZ HQ
                    go_wp2_with fail
                    go_quiet (fail)
                    go_wp2_with fail
                    go_roundw
                    case rel => exact ⟨k + 1, z, rfl, by go_num, by omega, HN, ⟨HND.out _⟩⟩
                    case measure => simp [intOf]; omega
                · have p2' := text_eq p2
                  have HN : Shut (z = ((nds rs).take (k + 1)).foldl (kidS c x) 0) := ⟨by
                    have := HSK.out
                    rw [if_neg (fun q => p2 q.2.1)] at this
                    exact this.symm⟩
                  clear p1 p2 HSK HZ HQ
                  go_wp2_with fail
                  go_quiet (fail)
                  go_wp2_with fail
                  go_roundw
                  case rel => exact ⟨k + 1, z, rfl, by go_num, by omega, HN, ⟨HND.out _⟩⟩
                  case measure => simp [intOf]; omega
              · have p1' : (r.nd.parent == c) = false := by simpa using p1
                have HN : Shut (z = ((nds rs).take (k + 1)).foldl (kidS c x) 0) := ⟨by
                  have := HSK.out
                  rw [if_neg (fun q => p1 q.1)] at this
                  exact this.symm⟩
                clear p1 HSK HZ HQ
                go_wp2_with fail
                go_quiet (fail)
                go_wp2_with fail
                go_roundw
                case rel => exact ⟨k + 1, z, rfl, by go_num, by omega, HN, ⟨HND.out _⟩⟩
                case measure => simp [intOf]; omega
            · have k1 : ¬ (k : Int) < (n : Int) := by omega
              have hz : z = kidF (nds rs) c x := by
                rw [HZ.out, List.take_of_length_le (by rw [nds_len]; have := HM.out.2; omega)]
                rfl
              have hst := HST.out
              rw [← hz] at hst
              clear hz HST
              by_cases p3 : z = 0
              · have p3' : (z == 0) = true := by simpa using p3
                have HE : Shut (R = 0) := ⟨by rw [hst, if_pos p3]⟩
                clear hst p3
                go_wp2_with fail
                go_ret
                exact ⟨by rw [HE.out]; rfl, HQ.out.1.bel⟩
              · have p3' : (z == 0) = false := by simpa using p3
                have HN : Shut (R = findF (nds rs) (L.drop (j + 1)) z) := ⟨by rw [hst, if_neg p3]⟩
                clear hst p3
                go_wp2_with fail
                go_roundw
                case rel => exact ⟨j + 1, z, rfl, by go_num, by omega, HN, HQ⟩
                case measure => simp [intOf]; omega
        · have j1 : ¬ (j : Int) < (l : Int) := by omega
          have HE : Shut (R = c) := ⟨by
            rw [HC.out, List.drop_eq_nil_of_le (by have := HL.out; omega)]
            rfl⟩
          go_wp2_with fail
          go_ret
          exact ⟨by rw [HE.out]; rfl, HG.out.1.bel⟩
end Go.Proofs.Ythfmjjaollekiaa
/- TreJ: The walk of the model's PathOf. -/
namespace Go.Proofs.Ythfmjjaollekiaa
set_option maxRecDepth 100000
open Go.RowKit
attribute [local go_sem ↓] Go.wp_at_zero Go.wp_at_succ

/-- Up to the first node, names in front of names. -/
def pathF (ns : List NM) : Nat → Int → List ByteArray → ByteArray
  | 0, _, _ => ⟨#[]⟩
  | f + 1, id, L => if id = 1 then joinB L else match ns.findIdx? (fun n => n.id == id) with
    | none => ⟨#[]⟩
    | some k => pathF ns f (ns.getD k default).parent ((ns.getD k default).name :: L)
theorem pathF_one {ns : List NM} {f : Nat} {c : Int} {L : List ByteArray} (h : c = 1) : pathF ns (f + 1) c L = joinB L := by
  conv => lhs; unfold pathF
  rw [if_pos h]
theorem pathF_none {ns : List NM} {f : Nat} {c : Int} {L : List ByteArray} (h0 : c ≠ 1) (h : ns.findIdx? (fun n => n.id == c) = none) : pathF ns (f + 1) c L = ⟨#[]⟩ := by
  conv => lhs; unfold pathF
  rw [if_neg h0, h]
theorem pathF_some {ns : List NM} {f i : Nat} {c : Int} {L : List ByteArray} (h0 : c ≠ 1) (h : ns.findIdx? (fun n => n.id == c) = some i) : pathF ns (f + 1) c L = pathF ns f (ns.getD i default).parent ((ns.getD i default).name :: L) := by
  conv => lhs; unfold pathF
  rw [if_neg h0, h]
def pathX (T : TM) (id : Int) : ByteArray := if treeOk T = true then pathF T.nodes 15 id [] else ⟨#[]⟩
theorem treeOk_first {T : TM} (h : treeOk T = true) : 0 < T.nodes.length ∧ (T.nodes.getD 0 default).id = 1 ∧ atI T.nodes 1 = 0 := by
  have h0 : 0 < T.nodes.length := by
    unfold treeOk at h
    simp only [Bool.and_eq_true, decide_eq_true_eq] at h
    omega
  have h1 := treeOk_node h h0
  unfold nodeOk at h1
  simp only [Bool.and_eq_true] at h1
  have h2 := h1.1.1.2
  rw [if_pos trivial] at h2
  unfold firstOk at h2
  simp only [Bool.and_eq_true] at h2
  have h3 : (T.nodes.getD 0 default).id = 1 := by simpa using h2.1.1.1.1
  refine ⟨h0, h3, ?_⟩
  exact atI_some (i := 0) h0 (by rw [← h3]; simp [List.getD, h0]) (fun j hj => by omega)
theorem treeOk_name {T : TM} (h : treeOk T = true) {i : Nat} (hi : i < T.nodes.length) (h1 : (T.nodes.getD i default).id ≠ 1) : nameB (T.nodes.getD i default).name = true := by
  have hn := treeOk_node h hi
  have h0 : i ≠ 0 := fun e => by rw [e] at h1; exact h1 (treeOk_first h).2.1
  unfold nodeOk at hn
  rw [decide_eq_false h0] at hn
  simp only [Bool.and_eq_true, Bool.false_or] at hn
  exact hn.2.1.1.1.1
theorem names_fit' {L : List ByteArray} (h : ∀ s ∈ L, nameB s = true) (h4 : L.length ≤ 15) : TFit L := by
  have hs : ∀ s ∈ L, s.size ≤ 8 := fun s hs => ((nameB_iff s).1 (h s hs)).2.2
  have : tsum L ≤ L.length * 8 := by
    clear h h4
    induction L with
    | nil => simp [tsum]
    | cons x L ih =>
      simp only [tsum, List.length_cons, Nat.add_mul, Nat.one_mul]
      have h1 := hs x (by simp)
      have h2 := ih (fun s h => hs s (by simp [h]))
      omega
  unfold TFit
  omega
theorem own_all9 {w : World} {g cap B n : Nat} {L : List ByteArray} (h : w.ownsRow B 9 1 (.slice (some ⟨g, 0, none⟩) n cap) n (tv L)) (hn : n = L.length) : SSee w (.slice (some ⟨g, 0, none⟩) n cap) L 0 w.heap.size := by
  have := own_part9 h (k := n) (by omega)
  rw [List.take_of_length_le (by omega)] at this
  exact this
theorem own_one9 (w : World) (v : Value) (e : TypeId) {base : Nat} (hb : base ≤ w.heap.size) : (w.alloc (.cells #[v] e)).ownsRow base e 1 (.slice (some ⟨w.heap.size, 0, none⟩) 1 1) 1 [v] := ⟨by simp, .inr ⟨w.heap.size, 1, #[v], rfl, hb, heap_alloc_new w _, Nat.le_refl _, by decide, rfl, by simp⟩⟩
/-- The names so far, and where they lie. -/
def NSo (w W : World) (a : Option Addr) (n cap : Nat) (nx : Int) (g c l : Nat) (L : List ByteArray) : Prop := BX w W a n cap nx ∧ W.ownsRow (w.heap.size + 1) 9 1 (.slice (some ⟨g, 0, none⟩) l c) l (tv L)
theorem NSo.below {w W W' : World} {a : Option Addr} {n cap g c l : Nat} {nx : Int} {L : List ByteArray} (h : NSo w W a n cap nx g c l L) (hb : Below W.heap.size W W') : NSo w W' a n cap nx g c l L := ⟨h.1.below hb, h.2.kept (row := none) ⟨hb.os, hb.tape, hb.output, hb.size, fun k hk _ => hb.block k hk⟩ (Classical.em _)⟩
attribute [local irreducible] nodeOk treeOk atI joinB nameB
end Go.Proofs.Ythfmjjaollekiaa
/- TreK: The walk of the model's KidsOf. -/
namespace Go.Proofs.Ythfmjjaollekiaa
set_option maxRecDepth 100000
open Go.RowKit
attribute [local go_sem ↓] Go.wp_at_zero Go.wp_at_succ

/-- Not after, as texts are put in order. -/
def leqT (x y : ByteArray) : Bool := Op.bytesLess x.toList y.toList || x.toList == y.toList
/-- A name put among others. -/
def insK (L : List ByteArray) (nm : ByteArray) : List ByteArray := L.filter (fun x => leqT x nm) ++ [nm] ++ L.filter (fun x => !leqT x nm)
theorem insK_len (L : List ByteArray) (nm : ByteArray) : (insK L nm).length = L.length + 1 := by
  unfold insK
  induction L with
  | nil => rfl
  | cons x L ih =>
    cases h : leqT x nm <;> simp [h] at ih ⊢ <;> omega
def kidsS (id : Int) (L : List ByteArray) (n : NM) : List ByteArray := if n.parent = id then insK L n.name else L
def kidsL (ns : List NM) (id : Int) : List ByteArray := ns.foldl (kidsS id) []
theorem kids_take (ns : List NM) (id : Int) (k : Nat) (h : k < ns.length) : kidsL (ns.take (k + 1)) id = kidsS id (kidsL (ns.take k) id) ns[k] := by
  unfold kidsL
  rw [List.take_succ_eq_append_getElem h, List.foldl_append]
  rfl
def kidsX (T : TM) (id : Int) : List ByteArray := if treeOk T = true then kidsL T.nodes id else []
theorem filt_take (p : ByteArray → Bool) (L : List ByteArray) (j : Nat) (h : j < L.length) : (L.take (j + 1)).filter p = (L.take j).filter p ++ (if p (L.getD j ⟨#[]⟩) = true then [L.getD j ⟨#[]⟩] else []) := by
  rw [List.take_succ_eq_append_getElem h, List.filter_append]
  simp [List.getD, h, List.filter]
  cases p L[j] <;> rfl
/-- What an answer of texts is: a row of its own. -/
def KPost (R : List ByteArray) (w : World) (e : Ending) (w' : World) : Prop := ∃ v, e = .returned v ∧ w'.ownsRow w.heap.size 9 1 v R.length (tv R) ∧ Below w.heap.size w w'
/-- A row that is being made, beside what was there. -/
def Mk9 (V W : World) (v : Value) (m : Nat) (L : List ByteArray) : Prop := Below V.heap.size V W ∧ W.ownsRow V.heap.size 9 1 v m (tv L)
theorem Mk9.drew {V W : World} {v : Value} {m : Nat} {L : List ByteArray} (h : Mk9 V W v m L) (q : Nat) : Mk9 V (W.drewN q) v m L := by
  have hb : Below W.heap.size W (W.drewN q) := ⟨rfl, rfl, rfl, Nat.le_refl _, fun _ _ => rfl⟩
  exact ⟨h.1.trans (hb.mono h.1.size), h.2.kept (row := none) ⟨hb.os, hb.tape, hb.output, hb.size, fun k hk _ => hb.block k hk⟩ (Classical.em _)⟩
theorem Mk9.snoc {V W W' : World} {v v' : Value} {m : Nat} {L : List ByteArray} {x : ByteArray} {o : Obj} (h : Mk9 V W v m L) (ho : W'.ownsRow V.heap.size 9 1 v' (m + 1) (tv L ++ [.string x])) (hg : (W.alloc o).grownBy W' v.ownBlock) : Mk9 V W' v' (m + 1) (L ++ [x]) := by
  have hb := h.1.alloc h.1.size o
  refine ⟨hb.grown hg hb.size (fun k hk => (h.2.lt k hk).1), ?_⟩
  have e : tv (L ++ [x]) = tv L ++ [.string x] := by simp [tv]
  rw [e]
  exact ho
attribute [local irreducible] nodeOk treeOk atI joinB nameB leqT
end Go.Proofs.Ythfmjjaollekiaa
/- TreY: The walk of the model's RoomFor. -/
namespace Go.Proofs.Ythfmjjaollekiaa
set_option maxRecDepth 100000
open Go.RowKit
attribute [local go_sem ↓] Go.wp_at_zero Go.wp_at_succ

/-- Is there room, from here on up? -/
def roomF (T : TM) (m : Int) : Nat → Nat → Int → Bool
  | 0, _, _ => false
  | f + 1, st, id => match T.nodes.findIdx? (fun n => n.id == id) with
    | none => decide (0 < st)
    | some k => if (T.nodes.getD k default).dir = true ∧ 0 < (T.nodes.getD k default).quota ∧ (T.nodes.getD k default).quota - usedX T id < m then false else roomF T m f (st + 1) (T.nodes.getD k default).parent
theorem roomF_none {T : TM} {m c : Int} {f st : Nat} (h : T.nodes.findIdx? (fun n => n.id == c) = none) : roomF T m (f + 1) st c = decide (0 < st) := by
  conv => lhs; unfold roomF
  rw [h]
theorem roomF_some {T : TM} {m c : Int} {f st i : Nat} (h : T.nodes.findIdx? (fun n => n.id == c) = some i) : roomF T m (f + 1) st c = if (T.nodes.getD i default).dir = true ∧ 0 < (T.nodes.getD i default).quota ∧ (T.nodes.getD i default).quota - usedX T c < m then false else roomF T m f (st + 1) (T.nodes.getD i default).parent := by
  conv => lhs; unfold roomF
  rw [h]
def roomX (T : TM) (id m : Int) : Bool := if treeOk T = true then roomF T m 15 0 id else false
theorem nodeOk_quota {T : TM} {i : Nat} (h : nodeOk T i = true) (hd : (T.nodes.getD i default).dir = true) : 0 ≤ (T.nodes.getD i default).quota ∧ (T.nodes.getD i default).quota ≤ 1000 := by
  unfold nodeOk at h
  simp only [Bool.and_eq_true] at h
  have h3 := h.1.2
  rw [if_pos hd] at h3
  unfold dirOk at h3
  simp only [Bool.and_eq_true] at h3
  exact inI_iff.1 h3.1.1.1.2
theorem usedL_le {ns : List NM} {xs : List Int} (h : ∀ x ∈ xs, 0 ≤ (ns.getD (atI ns x).toNat default).len ∧ (ns.getD (atI ns x).toNat default).len ≤ 1000) : 0 ≤ usedL ns xs ∧ usedL ns xs ≤ 1000 * xs.length := by
  induction xs with
  | nil => simp [usedL]
  | cons x xs ih =>
    have h1 := ih (fun y hy => h y (by simp [hy]))
    have h2 := h x (by simp)
    simp only [usedL, List.length_cons]
    push_cast
    omega
theorem usedX_le (T : TM) (id : Int) : 0 ≤ usedX T id ∧ usedX T id ≤ 14000 := by
  unfold usedX
  have h := usedL_le (ns := T.nodes) (xs := belowX T id) (fun x hx => by
    obtain ⟨i, _, hat, h1⟩ := belowX_at hx
    rw [hat, Int.toNat_natCast]; exact h1)
  have := belowX_len T id
  omega
attribute [local irreducible] nodeOk treeOk atI belowF belowL belowX usedX
set_option maxRecDepth 100000 in
set_option maxHeartbeats 8000000 in
theorem specRoomFor {w : World} {v : Value} {T : TM} {lo hi : Nat} (id m : Int) (h : TSee w v T lo hi) (hf : NFit T) : Calls Try.prog 11 #[v, .int .i64 id, .int .i64 m] w fun e w' => e = .returned (.bool (roomX T id m)) ∧ Below w.heap.size w w' := by
  have hl : T.nodes.length ≤ 1048576 := by unfold NFit at hf; omega
  have h' := h
  obtain ⟨a, cap, rs, rfl, hr, hm⟩ := h
  obtain ⟨n, hn⟩ : ∃ n, n = rs.length := ⟨_, rfl⟩
  rw [← hn] at h' ⊢
  have HTS := Shut.mk (fun W (hW : Below w.heap.size w W) (c : Int) => specAt c (h'.below hW) hl)
  have HUS := Shut.mk (fun W (hW : Below w.heap.size w W) (c : Int) => specUsedBelow c (h'.below hW) hf)
  have HTO := Shut.mk (fun W (hW : Below w.heap.size w W) => specTreeOk (h'.below hW) hf)
  obtain ⟨R, hR⟩ : ∃ R, R = roomX T id m := ⟨_, rfl⟩
  rw [← hR]
  unfold roomX at hR
  obtain ⟨nodes, nx⟩ := T
  dsimp only at hr HTS HUS HTO hR
  subst hr
  have HM := Shut.mk (And.intro hm hn)
  have hn9 : n ≤ 1048576 := by dsimp only at hl; rw [nds_len] at hl; omega
  have HR := Shut.mk hR
  clear hm hf hR hn h' hl
  cases hok : treeOk ⟨nds rs, nx⟩ with
  | false =>
    have HE : Shut (R = false) := ⟨by rw [HR.out, if_neg (by rw [hok]; decide)]⟩
    rw [hok] at HTO
    clear hok
    go_enter Try.func11, Try.ntmps11
    go_upto_region 1 with fail
    refine wp_shade (fun W => BX w W a n cap nx) (BX.new w a n cap nx 26) ?_
    intro W hg
    have HG := Shut.mk hg
    have x0 := (hg.box.2 0 _ rfl).1
    have x1 := (hg.box.2 1 _ rfl).1
    clear hg
    go_wp2_with fail
    refine (HTO.out _ HG.out.bel).mono ?_
    rintro e W1 ⟨rfl, hb1⟩
    have HG1 := Shut.mk (HG.out.below hb1)
    clear hb1
    go_wp2_with fail
    go_ret
    exact ⟨by rw [HE.out]; rfl, HG1.out.bel⟩
  | true =>
    have HRR : Shut (R = roomF ⟨nds rs, nx⟩ m 15 0 id) := ⟨by rw [HR.out, if_pos hok]⟩
    have HOK := Shut.mk hok
    rw [hok] at HTO
    clear hok HR
    go_enter Try.func11, Try.ntmps11
    go_upto_region 1 with fail
    refine wp_shade (fun W => BX w W a n cap nx) (BX.new w a n cap nx 26) ?_
    intro W hg
    have HG := Shut.mk hg
    have x0 := (hg.box.2 0 _ rfl).1
    have x1 := (hg.box.2 1 _ rfl).1
    clear hg
    go_wp2_with fail
    refine (HTO.out _ HG.out.bel).mono ?_
    rintro e W1 ⟨rfl, hb1⟩
    have HG1 := Shut.mk (HG.out.below hb1)
    clear hb1 x0 x1 HG
    go_wp2_with fail
    go_loopw [1, 7] (fun iv mv wr => ∃ (s : Nat) (c : Int), iv = .int .i64 c ∧ mv = .int .i64 s ∧ s ≤ 15 ∧ Shut (R = roomF ⟨nds rs, nx⟩ m (15 - s) s c) ∧ Shut (BX w wr a n cap nx)) (fun _ mv _ => 15 - (intOf mv).toNat)
    case atStart => exact ⟨0, id, rfl, rfl, by omega, ⟨HRR.out⟩, HG1⟩
    case round =>
      clear HG1
      obtain ⟨s, c, rfl, rfl, hs15, hcl, HG⟩ := hrel
      by_cases hlt : s < 15
      · have m1 : (s : Int) ≤ 14 := by omega
        obtain ⟨f, hf⟩ : ∃ f, f = 15 - (s + 1) := ⟨_, rfl⟩
        have hcl' := hcl.out
        rw [show 15 - s = f + 1 by omega] at hcl'
        have x0 := (HG.out.box.2 0 _ rfl).1
        have x1 := (HG.out.box.2 1 _ rfl).1
        have HAT := Shut.mk (HTS.out wr HG.out.bel c)
        rcases at_cases (nds rs) c with ⟨hat, hfn⟩ | ⟨i, hi, hat, hfn⟩
        · have HE : Shut (R = decide ((0 : Int) < (s : Int))) := ⟨by rw [hcl', roomF_none hfn]; exact decide_eq_decide.2 ⟨fun h => by omega, fun h => by omega⟩⟩
          rw [hat] at HAT
          clear hcl' hcl hf hfn hat
          by_cases hs0 : 0 < s
          · have hsI : (0 : Int) < (s : Int) := by omega
            have HF : Shut (R = true) := ⟨by rw [HE.out, decide_eq_true hsI]⟩
            clear HE
            go_wp2_with fail
            refine HAT.out.mono ?_
            rintro e W6 ⟨rfl, hb6⟩
            have HG6 := Shut.mk (HG.out.below hb6)
            clear hb6
            go_wp2_with fail
            go_ret
            exact ⟨by rw [HF.out]; first | rfl | simp [hs0], HG6.out.bel⟩
          · have hs1 : s = 0 := by omega
            subst hs1
            have HF : Shut (R = false) := ⟨by rw [HE.out]; rfl⟩
            clear HE
            go_wp2_with fail
            refine HAT.out.mono ?_
            rintro e W6 ⟨rfl, hb6⟩
            have HG6 := Shut.mk (HG.out.below hb6)
            clear hb6
            go_wp2_with fail
            go_ret
            exact ⟨by rw [HF.out]; rfl, HG6.out.bel⟩
        · have hir : i < rs.length := by rw [nds_len] at hi; exact hi
          have hnk := treeOk_node HOK.out (i := i) hi
          have hqd := fun hd => nodeOk_quota hnk hd
          have hus := usedX_le ⟨nds rs, nx⟩ c
          have HNX : Shut (R = if rs[i].nd.dir = true ∧ 0 < rs[i].nd.quota ∧ rs[i].nd.quota - usedX ⟨nds rs, nx⟩ c < m then false else roomF ⟨nds rs, nx⟩ m (15 - (s + 1)) (s + 1) rs[i].nd.parent) := ⟨by rw [hcl', roomF_some hfn]; dsimp only; rw [nds_getD hir, ← hf]⟩
          dsimp only at hqd
          rw [nds_getD hir] at hqd
          rw [hat] at HAT
          have i0 : (0 : Int) ≤ (i : Int) := by omega
          have i1 : (i : Int) < (n : Int) := by have := HM.out.2; omega
          have i2 : ¬ (i : Int) < 0 := by omega
          clear hcl' hcl hf hfn hat hi hnk
          go_wp2_with fail
          refine HAT.out.mono ?_
          rintro e W6 ⟨rfl, hb6⟩
          have HG6 := Shut.mk (HG.out.below hb6)
          clear hb6 x0 x1 HAT HG
          have x0 := (HG6.out.box.2 0 _ rfl).1
          have x1 := (HG6.out.box.2 1 _ rfl).1
          have hwl : w.heap.size < W6.heap.size := HG6.out.box.1
          obtain ⟨b, off, rfl, lb, hc⟩ := TR.nat (HM.out.1.below HG6.out.bel) (by omega)
          have HC := Shut.mk (hc i hir)
          have e1 := (hc i hir).2.1
          have e3 := (hc i hir).2.2.2.1
          have e5 := (hc i hir).2.2.2.2.2.1
          have HUC := Shut.mk (fun W (hW : Below W6.heap.size W6 W) => HUS.out W (HG6.out.bel.trans (hW.mono HG6.out.bel.size)) c)
          clear hc
          generalize usedX ⟨nds rs, nx⟩ c = u at *
          generalize rs[i] = r at *
          cases hd : r.nd.dir with
          | false =>
            rw [hd] at e3
            have HN2 : Shut (R = roomF ⟨nds rs, nx⟩ m (15 - (s + 1)) (s + 1) r.nd.parent) := ⟨by rw [HNX.out, if_neg (by rw [hd]; simp)]⟩
            clear hd HNX hqd
            go_wp2_with fail
            go_quiet (fail)
            go_wp2_with fail
            go_roundw
            case rel => exact ⟨s + 1, r.nd.parent, rfl, by go_num, by omega, HN2, ⟨HG6.out.below ⟨rfl, rfl, rfl, Nat.le_refl _, fun _ _ => rfl⟩⟩⟩
            case measure => simp [intOf]; omega
          | true =>
            rw [hd] at e3
            have hq := hqd hd
            by_cases hq0 : 0 < r.nd.quota
            · have hq0' : decide ((0 : Int) < r.nd.quota) = true := by simpa using hq0
              have hwq : IntKind.i64.wrap (r.nd.quota - u) = r.nd.quota - u := IntWalk.i64_in _ ⟨by omega, by omega⟩
              have HNX' : Shut (R = if r.nd.quota - u < m then false else roomF ⟨nds rs, nx⟩ m (15 - (s + 1)) (s + 1) r.nd.parent) := ⟨by
                rw [HNX.out]
                by_cases hc : r.nd.quota - u < m
                · rw [if_pos hc, if_pos ⟨hd, hq0, hc⟩]
                · rw [if_neg hc, if_neg (fun q => hc q.2.2)]⟩
              clear hd HNX hqd
              go_wp2_with fail
              go_region_held3 (fun w' => w'.cell? ⟨w.heap.size, 0, none⟩ = some (.slice (some ⟨b, off, none⟩) n cap) ∧ w'.cell? ⟨w.heap.size, 1, none⟩ = some (.int .i64 nx) ∧ w'.cell? ⟨b, off + i * 9 + 3, none⟩ = some (.bool true) ∧ w'.cell? ⟨b, off + i * 9 + 5, none⟩ = some (.int .i64 r.nd.quota))
                (first | go_keep | (refine ⟨?_, ?_, ?_, ?_⟩ <;> first | (rw [hb9.cell (by exact hwl)]; simp [*]; done) | (rw [hb9.cell (by exact lb)]; simp [*]; done)))
                ((go_at_call 30; refine (HUC.out _ (by first | exact Below.refl _ _ | exact Below.drew (Below.refl _ _))).mono ?_; rintro e w9 ⟨rfl, hb9⟩))
              all_goals
                have hb : Below W6.heap.size W6 w9 := by first | exact (Below.drew (Below.refl _ _)).trans hb9 | exact hb9
                have HG9 := Shut.mk (HG6.out.below hb)
                have z0 := (HG9.out.box.2 0 _ rfl).1
                have f1 := (HC.out.below hb lb).2.1
                clear hb hb9
                by_cases hc : r.nd.quota - u < m
                · have hc' : decide (r.nd.quota - u < m) = true := by simpa using hc
                  have HE : Shut (R = false) := ⟨by rw [HNX'.out, if_pos hc]⟩
                  clear HNX'
                  go_wp2_with fail
                  go_ret
                  exact ⟨by rw [HE.out]; rfl, HG9.out.bel⟩
                · have hc' : decide (r.nd.quota - u < m) = false := by simpa using hc
                  have HN2 : Shut (R = roomF ⟨nds rs, nx⟩ m (15 - (s + 1)) (s + 1) r.nd.parent) := ⟨by rw [HNX'.out, if_neg hc]⟩
                  clear HNX'
                  go_wp2_with fail
                  go_roundw
                  case rel => exact ⟨s + 1, r.nd.parent, rfl, by go_num, by omega, HN2, HG9⟩
                  case measure => simp [intOf]; omega
            · have hq0' : decide ((0 : Int) < r.nd.quota) = false := by simpa using hq0
              have HN2 : Shut (R = roomF ⟨nds rs, nx⟩ m (15 - (s + 1)) (s + 1) r.nd.parent) := ⟨by rw [HNX.out, if_neg (fun q => hq0 q.2.1)]⟩
              clear hd HNX hqd
              go_wp2_with fail
              go_quiet (fail)
              go_wp2_with fail
              go_roundw
              case rel => exact ⟨s + 1, r.nd.parent, rfl, by go_num, by omega, HN2, ⟨HG6.out.below ⟨rfl, rfl, rfl, Nat.le_refl _, fun _ _ => rfl⟩⟩⟩
              case measure => simp [intOf]; omega
      · have hm : s = 15 := by omega
        have HE : Shut (R = false) := ⟨by rw [hcl.out, hm]; rfl⟩
        have m1 : ¬ (s : Int) ≤ 14 := by omega
        clear hm hcl
        go_wp2_with fail
        go_ret
        exact ⟨by rw [HE.out]; rfl, HG.out.bel⟩
end Go.Proofs.Ythfmjjaollekiaa
