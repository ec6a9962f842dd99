/- Texts of ours, laid one behind the other: LawAll. -/
import Derived.Test.YtakhagkhngmpaaaGreatQn9
import Derived.Test.YtakhagkhngmpaaaGreatQn13
import Derived.Test.YtakhagkhngmpaaaGreatQn4
import Derived.Test.YtakhagkhngmpaaaGreatQn8
import Derived.Test.YtakhagkhngmpaaaGreatQn3
/- LawAll: . -/
namespace Go.Proofs.YtakhagkhngmpaaaGreat
set_option maxRecDepth 100000
open Go.RowKit
attribute [local go_sem ↓] Go.wp_at_zero Go.wp_at_succ
theorem ecs_split (es : List EM) (k : Nat) : ecs es = ecs (es.take k) ++ ecs (es.drop k) := by
 unfold ecs
 rw [← List.flatMap_append, List.take_append_drop]
theorem RRow.upto {w : World} {a : Option Addr} {es : List EM} {lo hi : Nat} (h : RRow w a (ecs es) lo hi) (k : Nat) : RRow w a (ecs (es.take k)) lo hi := fun hp => by
 have e := ecs_split es k
 obtain ⟨b, off, ea, h1, h2, h3, hc⟩ := h (by rw [e, List.length_append]; omega)
 refine ⟨b, off, ea, h1, h2, h3, fun i v hv => hc i v ?_⟩
 have hi := (List.getElem?_eq_some_iff.1 hv).1
 rw [e, List.getElem?_append_left hi]
 exact hv
def from9 (a : Option Addr) (vc k : Nat) : Option Addr := if vc = k then a else a.map (·.add (k * 5))
theorem RRow.from {w : World} {a : Option Addr} {es : List EM} {lo hi vc : Nat} (h : RRow w a (ecs es) lo hi) (k : Nat) (hvc : es.length ≤ vc) : RRow w (from9 a vc k) (ecs (es.drop k)) lo hi := fun hp => by
 have hl : k < es.length := by
  rw [ecs_len, List.length_drop] at hp
  omega
 have e := ecs_split es k
 obtain ⟨b, off, ea, h1, h2, h3, hc⟩ := h (by rw [e, List.length_append]; omega)
 unfold from9
 rw [if_neg (by omega), ea]
 refine ⟨b, off + k * 5, ?_, h1, h2, h3, fun i v hv => ?_⟩
 ·show some ((⟨b, off, none⟩ : Addr).add (k * 5)) = _
  cases k with
  | zero => simp [Addr.add]
  | succ k => simp [Addr.add]
 ·have := hc (k * 5 + i) v (by
   rw [e, List.getElem?_append_right (by rw [ecs_len, List.length_take]; omega)]
   rw [show k * 5 + i - (ecs (es.take k)).length = i by rw [ecs_len, List.length_take, Nat.min_eq_left (by omega)]; omega]
   exact hv)
  rw [← Nat.add_assoc] at this
  exact this
theorem all_two (es : List EM) (k : Nat) : allX (allX newX (es.take k) 1).1 (es.drop k) (allX newX (es.take k) 1).2 = allX newX es 1 := by
 unfold allX
 have : es.foldl stepX (newX, 1) = (es.take k ++ es.drop k).foldl stepX (newX, 1) := by rw [List.take_append_drop]
 rw [this, List.foldl_append]
theorem pieces_small (T : TM) (h : treeOk T = true) (k : Nat) : 0 ≤ sm (fun n => (n.pieces.length : Int)) (T.nodes.take k) ∧ sm (fun n => (n.pieces.length : Int)) (T.nodes.take k) ≤ 560 := by
 have key : ∀ ns : List NM, (∀ n ∈ ns, n ∈ T.nodes) → 0 ≤ sm (fun n => (n.pieces.length : Int)) ns ∧ sm (fun n => (n.pieces.length : Int)) ns ≤ 40 * ns.length := by
  intro ns
  induction ns with
  | nil => intro _; simp [sm]
  | cons n ns ih =>
   intro hm
   have h1 := ih fun x hx => hm x (List.mem_cons_of_mem _ hx)
   obtain ⟨i, hi, e⟩ := List.getElem_of_mem (hm n (List.mem_cons_self ..))
   have h2 := (node_parts h i hi).2.1
   rw [e] at h2
   simp only [sm, List.length_cons]
   push_cast
   omega
 have q := key (T.nodes.take k) fun n hn => List.mem_of_mem_take hn
 have := (tree_len h).2.1
 rw [List.length_take] at q
 omega
theorem new_rt9 : Rt newX := Rt.of newX_ok9
attribute [local irreducible] treeOk allX grpX newX sm
set_option maxHeartbeats 16000000 in
theorem all_walk (a : Option Addr) (len cap : Nat) (w : World) (hcode : CodeAt w w.heap.size a len) :
  Calls Tryz.prog 4 #[.slice a len cap] w fun e w' => e = .returned (.bool true) ∧ Below w.heap.size w w' := by
 have hbig : decide ((1048576 : Int) < (len : Int)) = false := by have := hcode.1; simp; omega
 have HC : Hid (CodeAt w w.heap.size a len) := hcode
 clear hcode
 go_enter Tryz.func4, Tryz.ntmps4
 go_wp2_with fail
 refine (big_any a len cap _).mono ?_
 rintro e w1 ⟨rfl, hw1⟩
 obtain rfl : w = w1 := hw1.symm
 clear hw1
 rw [hbig]
 go_upto_region 4 with (go_at_call 26; refine (drawEdits_any _ a len cap HC.out).mono ?_; rintro e w1 ⟨va, vc, es, rfl, hes, hpl, hrow, hvc, hb1⟩; have HB1 := Shut.mk hb1; have HROW := Shut.mk hrow; have HEF := Shut.mk (fun e he => (hpl e he).fit); have HC1 : Hid (CodeAt w1 w1.heap.size a len) := ⟨HC.out.1, fun hp => by obtain ⟨b, off, e, hb, hx⟩ := (HC.out.below hb1 (Nat.le_refl _)).2 hp; exact ⟨b, off, e, Nat.lt_of_lt_of_le hb hb1.size, hx⟩⟩; clear hpl hrow hb1)
 have HT : Shut (TL w1 w1 [] [] []) := ⟨TL.of (MB.nil w1)⟩
 have HAOK := Shut.mk (Rt.of (drawn_ok es))
 have HGI := Shut.mk (grp_count (s := allX newX es 1) (drawn_ok es) (by unfold allX; exact GI.all es GI.new))
 have HUP := Shut.mk (grp_up (allX newX es 1).1 1)
 have HGL := Shut.mk (grpX_len (allX newX es 1).1 1)
 have HPL := Shut.mk (allP_len (allX newX es 1).1.nodes)
 have HGB := Shut.mk (show 1 ≤ (allX newX es 1).2 ∧ (allX newX es 1).2 ≤ 1 + 40 * es.length from by unfold allX; exact groups_all es (newX, 1))
 have HIA := Shut.mk (fun (W : World) (u : Value) (lo hi : Nat) (q : TSee W u newX lo hi) (hb : Below w1.heap.size w1 W) => implApplyAll va vc es 0 w1.heap.size 1 q new_rt9.fit new_rt9.int (HROW.out.below hb) HEF.out (by omega))
 have HSA := Shut.mk (fun (W : World) (u : Value) (lo hi : Nat) (q : TSee W u newX lo hi) (hb : Below w1.heap.size w1 W) => specApplyAll va vc es 0 w1.heap.size 1 q new_rt9.fit (HROW.out.below hb) HEF.out (by omega))
 have HIB := Shut.mk (fun (k : Nat) (W : World) (u : Value) (lo hi : Nat) (q : TSee W u newX lo hi) (hb : Below w1.heap.size w1 W) => implApplyAll va vc (es.take k) 0 w1.heap.size 1 q new_rt9.fit new_rt9.int ((HROW.out.upto k).below hb) (fun e he => HEF.out e (List.mem_of_mem_take he)) (by rw [List.length_take]; omega))
 have HIC := Shut.mk (fun (k : Nat) (W : World) (u : Value) (lo hi : Nat) (q : TSee W u (allX newX (es.take k) 1).1 lo hi) (hb : Below w1.heap.size w1 W) => implApplyAll (from9 va vc k) (vc - k) (es.drop k) 0 w1.heap.size (allX newX (es.take k) 1).2 q (Rt.of (drawn_ok (es.take k))).fit (Rt.of (drawn_ok (es.take k))).int ((HROW.out.from k hvc).below hb) (fun e he => HEF.out e (List.mem_of_mem_drop he)) (by rw [List.length_drop]; omega))
 have HBOK := Shut.mk (fun k => Rt.of (drawn_ok (es.take k)))
 have HTWO := Shut.mk (fun k => all_two es k)
 obtain ⟨AT, G, hXX⟩ : ∃ AT G, allX newX es 1 = (AT, G) := ⟨_, _, rfl⟩
 rw [hXX] at HAOK HGI HUP HGL HPL HGB HIA HSA HTWO
 unfold ApPost at HIA HSA HIB HIC
 dsimp only at HAOK HGI HUP HGL HPL HGB HIA HSA
 obtain ⟨an, han⟩ : ∃ n, n = AT.nodes.length := ⟨_, rfl⟩
 obtain ⟨ax, hax⟩ : ∃ n, n = AT.next := ⟨_, rfl⟩
 have HAN := Shut.mk (And.intro han hax)
 have an14 : an ≤ 14 := by have := HAOK.out.l14; omega
 obtain ⟨ln, hln⟩ : ∃ n, n = es.length := ⟨_, rfl⟩
 have HLN := Shut.mk hln
 rw [← hln] at HIA HSA hes hvc HGB ⊢
 obtain ⟨zn, hzn⟩ : ∃ n, n = newX.nodes.length := ⟨_, rfl⟩
 obtain ⟨zx, hzx⟩ : ∃ n, n = newX.next := ⟨_, rfl⟩
 have HZN := Shut.mk (And.intro hzn hzx)
 clear hXX han hax hln hzn hzx HC hbig
 go_upto_region 5 with (first | (go_at_call 28; refine (implTreeNew _).mono ?_; rintro e w2 ⟨vv, rfl, hans, hb⟩; obtain ⟨cz1, dz1, rfl⟩ := tans_len hans; rw [← HZN.out.1, ← HZN.out.2] at hans ⊢; obtain ⟨lz1, hz1, h9⟩ := HT.out.call hans hb; replace HT := Shut.mk h9; clear hans hb h9) | (go_at_call 27; refine (HIA.out _ _ _ _ (HT.out.at 0 rfl).see HT.out.bel).mono ?_; rintro e w3 ⟨vv, rfl, hans, hb⟩; obtain ⟨g4, o4, n4, d4, rfl⟩ := tans_some hans HAOK.out.l1; have hn9 := (see_node hans.see HAOK.out.l1).1.symm; rw [← HAN.out.1] at hn9; subst hn9; rw [← HAN.out.2] at hans ⊢; obtain ⟨lo4, hi4, h9⟩ := HT.out.call hans hb; replace HT := Shut.mk h9; clear hans hb h9))
 obtain ⟨b4, hb9⟩ : ∃ b, b = w3.heap.size := ⟨_, rfl⟩
 rw [← hb9]
 refine wp_shade (fun W => TL w1 W [(b4, [.slice (some ⟨g4, o4, none⟩) an d4, .int .i64 ax])] [(.agg #[.slice (some ⟨g4, o4, none⟩) an d4, .int .i64 ax], AT, lo4, hi4), (.agg #[.slice cz1 zn dz1, .int .i64 zx], newX, lz1, hz1)] []) (by rw [hb9]; exact HT.out.new #[.slice (some ⟨g4, o4, none⟩) an d4, .int .i64 ax] 26) ?_
 intro W4 hW9
 replace HT := Shut.mk hW9
 clear hW9 hb9
 go_upto_region 6 with (first | (go_at_call 30; refine (specTreeNew _).mono ?_; rintro e w4 ⟨vv, rfl, hans, hb⟩; obtain ⟨cz2, dz2, rfl⟩ := tans_len hans; rw [← HZN.out.1, ← HZN.out.2] at hans ⊢; obtain ⟨lz2, hz2, h9⟩ := HT.out.call hans hb; replace HT := Shut.mk h9; clear hans hb h9) | (go_at_call 29; refine (HSA.out _ _ _ _ (HT.out.at 0 rfl).see HT.out.bel).mono ?_; rintro e w5 ⟨vv, rfl, hans, hb⟩; obtain ⟨g6, o6, n6, d6, rfl⟩ := tans_some hans HAOK.out.l1; have hn9 := (see_node hans.see HAOK.out.l1).1.symm; rw [← HAN.out.1] at hn9; subst hn9; rw [← HAN.out.2] at hans ⊢; obtain ⟨lo6, hi6, h9⟩ := HT.out.call hans hb; replace HT := Shut.mk h9; clear hans hb h9))
 obtain ⟨b6, hb9⟩ : ∃ b, b = w5.heap.size := ⟨_, rfl⟩
 rw [← hb9]
 refine wp_shade (fun W => TL w1 W [(b6, [.slice (some ⟨g6, o6, none⟩) an d6, .int .i64 ax]), (b4, [.slice (some ⟨g4, o4, none⟩) an d4, .int .i64 ax])] [(.agg #[.slice (some ⟨g6, o6, none⟩) an d6, .int .i64 ax], AT, lo6, hi6), (.agg #[.slice cz2 zn dz2, .int .i64 zx], newX, lz2, hz2), (.agg #[.slice (some ⟨g4, o4, none⟩) an d4, .int .i64 ax], AT, lo4, hi4), (.agg #[.slice cz1 zn dz1, .int .i64 zx], newX, lz1, hz1)] []) (by rw [hb9]; exact HT.out.new #[.slice (some ⟨g6, o6, none⟩) an d6, .int .i64 ax] 26) ?_
 intro W6 hW9
 replace HT := Shut.mk hW9
 clear hW9 hb9
 have HC2 : Hid (CodeAt W6 W6.heap.size a len) := ⟨HC1.out.1, fun hp => by
  obtain ⟨b, off, e, hb, hx⟩ := (HC1.out.below HT.out.bel (Nat.le_refl _)).2 hp
  exact ⟨b, off, e, Nat.lt_of_lt_of_le hb HT.out.bel.size, hx⟩⟩
 clear HIA HSA HC1
 obtain ⟨k, p0, hk0, hk1, hk2, HKK⟩ : ∃ (k : Nat) (p0 : Int), True ∧ True ∧ True ∧ True := ⟨0, 0, trivial, trivial, trivial, trivial⟩
 clear hk0 hk1 hk2 HKK k p0
 have hln0 : ¬ ((ln : Int) + 1) = 0 := by omega
 have hln1 : ¬ (ln + 1) = 0 := by omega
 go_upto_region 7 with (go_at_call 31; refine (drawPlaces_any _ a len cap HC2.out).mono ?_; rintro e w6 ⟨gp, pc, lp, rfl, hg1, hg2, hl, hx, hcell, hb1⟩; have c0 := hcell 0 (by omega); have b0 := hx (lp.getD 0 0) (by rw [List.getD_eq_getElem?_getD, List.getElem?_eq_getElem (by omega)]; exact List.getElem_mem _); generalize lp.getD 0 0 = p0 at c0 b0; have hp0 : p0.tmod ((ln : Int) + 1) = p0 % ((ln : Int) + 1) := Int.tmod_eq_emod_of_nonneg b0.1; obtain ⟨k, hk⟩ : ∃ k : Nat, p0 % ((ln : Int) + 1) = (k : Int) := ⟨(p0 % ((ln : Int) + 1)).toNat, (Int.toNat_of_nonneg (Int.emod_nonneg _ (by omega))).symm⟩; have hkl : k ≤ ln := (by have := Int.emod_lt_of_pos p0 (show (0 : Int) < (ln : Int) + 1 by omega); omega); replace HT := Shut.mk (HT.out.below hb1); clear hcell hx hl hb1 hg1 hg2)
 clear hp0 hk b0 HC2
 have hkv : k ≤ vc := by omega
 have k0 : (0 : Int) ≤ (k : Int) := by omega
 have hkc : (k : Int) ≤ (vc : Int) := by omega
 have hkn : (k : Int) ≤ (ln : Int) := by omega
 have HIB2 := Shut.mk (HIB.out k)
 have HIC2 := Shut.mk (HIC.out k)
 have HBO := Shut.mk (HBOK.out k)
 rw [HTWO.out k] at HIC2
 rw [List.length_take, Nat.min_eq_left (by have := HLN.out; omega)] at HIB2
 rw [List.length_drop, ← HLN.out] at HIC2
 obtain ⟨BT, ib, hBB⟩ : ∃ BT ib, allX newX (es.take k) 1 = (BT, ib) := ⟨_, _, rfl⟩
 rw [hBB] at HIB2 HIC2 HBO
 dsimp only at HIB2 HIC2 HBO
 obtain ⟨bn, hbn⟩ : ∃ n, n = BT.nodes.length := ⟨_, rfl⟩
 obtain ⟨bx, hbx⟩ : ∃ n, n = BT.next := ⟨_, rfl⟩
 have HBN := Shut.mk (And.intro hbn hbx)
 obtain ⟨fa, hfa⟩ : ∃ f, f = from9 va vc k := ⟨_, rfl⟩
 have HFA := Shut.mk hfa
 rw [← hfa] at HIC2
 have hm0 : Option.map (fun x : Addr => x.add 0) va = va := by cases va <;> simp [Addr.add]
 clear hBB hbn hbx hfa HIB HIC HBOK HTWO c0
 go_cut [9, 10] from 41 to 48 (fun u8 u9 wq => ∃ (b9 g9 o9 d9 lo9 hi9 dz3 lz3 hz3 : Nat) (cz3 : Option Addr), u8 = .pointer (some ⟨b9, 0, none⟩) ∧ u9 = .int .i64 ib ∧ Shut (TL w1 wq [(b9, [.slice (some ⟨g9, o9, none⟩) bn d9, .int .i64 bx]), (b6, [.slice (some ⟨g6, o6, none⟩) an d6, .int .i64 ax]), (b4, [.slice (some ⟨g4, o4, none⟩) an d4, .int .i64 ax])] [(.agg #[.slice (some ⟨g9, o9, none⟩) bn d9, .int .i64 bx], BT, lo9, hi9), (.agg #[.slice cz3 zn dz3, .int .i64 zx], newX, lz3, hz3), (.agg #[.slice (some ⟨g6, o6, none⟩) an d6, .int .i64 ax], AT, lo6, hi6), (.agg #[.slice cz2 zn dz2, .int .i64 zx], newX, lz2, hz2), (.agg #[.slice (some ⟨g4, o4, none⟩) an d4, .int .i64 ax], AT, lo4, hi4), (.agg #[.slice cz1 zn dz1, .int .i64 zx], newX, lz1, hz1)] []))
 case first =>
  have HTX : Shut (∀ x, Later w6.drew x → TL w1 x [(b6, [.slice (some ⟨g6, o6, none⟩) an d6, .int .i64 ax]), (b4, [.slice (some ⟨g4, o4, none⟩) an d4, .int .i64 ax])] [(.agg #[.slice (some ⟨g6, o6, none⟩) an d6, .int .i64 ax], AT, lo6, hi6), (.agg #[.slice cz2 zn dz2, .int .i64 zx], newX, lz2, hz2), (.agg #[.slice (some ⟨g4, o4, none⟩) an d4, .int .i64 ax], AT, lo4, hi4), (.agg #[.slice cz1 zn dz1, .int .i64 zx], newX, lz1, hz1)] []) := ⟨fun x hx => HT.out.below (Below.trans (Below.drew (Below.refl _ _)) hx)⟩
  refine wp_region_set (fun j => decide (j = 5 ∨ j = 6 ∨ j = 7 ∨ 8 < j)) (by kernel_rfl) ?_
  refine wpD_val (i := 1) (v := ?ve1) rfl (by kernel_rfl) (by kernel_rfl) (by kernel_rfl) (by kernel_rfl) (fun _ _ _ h => h) (by rfl) ?hye1 ?reste1
  case hye1 => (intro x hx; go_simp; try with_reducible rfl)
  try simp only [Act.put, qA, qB, qC]
  refine wpD_val (i := 2) (v := ?ve2) rfl (by kernel_rfl) (by kernel_rfl) (by kernel_rfl) (by kernel_rfl) (fun _ _ _ h => h) (by rfl) ?hye2 ?reste2
  case hye2 => (intro x hx; go_simp; try with_reducible rfl)
  try simp only [Act.put, qA, qB, qC]
  refine wpD_val (i := 3) (v := .slice va k vc) rfl (by kernel_rfl) (by kernel_rfl) (by kernel_rfl) (by kernel_rfl) (fun _ _ _ h => h) (by rfl) ?hye3 ?reste3
  case hye3 => (intro x hx; go_simp; try with_reducible rfl)
  try simp only [Act.put, qA, qB, qC]
  refine wpD_callbox (f := 28) (args := #[]) (C := #[.slice none 0 0, .int .i64 0]) (t := 26) (i := 0) (j := 8) (by kernel_rfl) rfl rfl (by rfl) (by rfl) (fun x hx => by go_simp) (fun x hx => by kernel_rfl) (fun x hx => (implTreeNew x).mono ?_) (fun x hx => ?_)
  ·rintro e y ⟨u1, rfl, hA, hby⟩
   refine ⟨_, rfl, hby, ?_⟩
   obtain ⟨cz3, dz3, rfl⟩ := tans_len hA
   rw [← HZN.out.1, ← HZN.out.2] at hA ⊢
   obtain ⟨lz3, hz3, hcall0⟩ := (HTX.out x hx).call hA hby
   have T1 := Shut.mk hcall0
   clear hA hby hcall0 hx
   try simp only [Act.put, qA, qB, qC]
   refine wpD_callbox (f := 27) (args := #[.agg #[.slice cz3 zn dz3, .int .i64 zx], .slice va k vc, .int .i64 1]) (C := #[.slice none 0 0, .int .i64 0]) (t := 26) (i := 4) (j := 8) (by kernel_rfl) rfl rfl (by rfl) (by rfl) (fun x hx => by go_simp) (fun x hx => by kernel_rfl) (fun x hx => (HIB2.out x _ _ _ ((T1.out.below hx).at 0 rfl).see (T1.out.below hx).bel).mono ?_) (fun x hx => ?_)
   ·rintro e y2 ⟨vv, rfl, hans, hb2⟩
    refine ⟨_, rfl, hb2, ?_⟩
    obtain ⟨g9, o9, n9, d9, rfl⟩ := tans_some hans HBO.out.l1
    have hn9 := (see_node hans.see HBO.out.l1).1.symm
    rw [← HBN.out.1] at hn9
    subst hn9
    rw [← HBN.out.2] at hans ⊢
    obtain ⟨lo9, hi9, hcall⟩ := (T1.out.below hx).call hans hb2
    have HY := Shut.mk hcall
    clear hcall hans hb2
    try simp only [Act.put, qA, qB, qC]
    clear hx
    refine wpD_pure (i := 5) (v := ?ve4) rfl (by kernel_rfl) (by kernel_rfl) (by kernel_rfl) (by kernel_rfl) (fun _ _ _ h => h) (by rfl) ?hye4 ?reste4
    case hye4 => (intro x; go_simp; try with_reducible rfl)
    try simp only [Act.put, qA, qB, qC]
    refine wpD_pure (i := 6) (v := ?ve5) rfl (by kernel_rfl) (by kernel_rfl) (by kernel_rfl) (by kernel_rfl) (fun _ _ _ h => h) (by rfl) ?hye5 ?reste5
    case hye5 => (intro x; go_simp; try with_reducible rfl)
    try simp only [Act.put, qA, qB, qC]
    refine wpD_pure (i := 7) (v := ?ve6) rfl (by kernel_rfl) (by kernel_rfl) (by kernel_rfl) (by kernel_rfl) (fun _ _ _ h => h) (by rfl) ?hye6 ?reste6
    case hye6 => (intro x; go_simp; try with_reducible rfl)
    try simp only [Act.put, qA, qB, qC]
    refine wpD_one (i := 8) (by kernel_rfl) rfl (by rfl) (fun x2 hx2 => ⟨.pointer (some ⟨x2.heap.size, 0, none⟩), x2.alloc (.cells #[.slice none 0 0, .int .i64 0] 26), by kernel_rfl, (Below.refl _ _).alloc (Nat.le_refl _) _, ?_⟩)
    have HY2 := Shut.mk ((HY.out.below hx2).new #[.slice none 0 0, .int .i64 0] 26)
    obtain ⟨nb, hnb⟩ : ∃ nb, nb = x2.heap.size := ⟨_, rfl⟩
    rw [← hnb] at HY2 ⊢
    clear hx2 hnb HY
    try simp only [Act.put, qA, qB, qC]
    refine wpD_tail (by kernel_rfl) ?_
    intro x5 hx5
    have HY3 := Shut.mk (HY2.out.below hx5)
    obtain ⟨q0, qf0⟩ := (HY3.out.mb.at 0 rfl).1.2 0 _ rfl
    obtain ⟨q1, qf1⟩ := (HY3.out.mb.at 0 rfl).1.2 1 _ rfl
    refine wpA_step (y := (x5.setCell ⟨nb, 0, none⟩ (.slice (some ⟨g9, o9, none⟩) bn d9)).setCell ⟨nb, 1, none⟩ (.int .i64 bx)) (i := 9) (by kernel_rfl) rfl (by rfl) (by go_simp) ?_
    have HZ := Shut.mk ((HY3.out.setBox 0 rfl 0 (.slice (some ⟨g9, o9, none⟩) bn d9) (by simp)).setBox 0 rfl 1 (.int .i64 bx) (by simp))
    clear q0 qf0 q1 qf1 hx5 HY2 HY3
    simp only [Act.put]
    refine wpA_val (i := 10) (v := .int .i64 ib) rfl (by kernel_rfl) (by kernel_rfl) (by kernel_rfl) (fun _ _ _ h => h) (by rfl) (fun x => by go_simp) ?_
    try simp only [Act.put, qA, qB, qC]
    refine wpA_done (by kernel_rfl) ?_ _
    go_wp2_with fail
    go_meet
    case rel => exact ⟨nb, g9, o9, d9, _, _, dz3, _, _, cz3, rfl, rfl, ⟨HZ.out⟩⟩
   ·have HW := Shut.mk ((T1.out.below hx).new #[.slice none 0 0, .int .i64 0] 26)
    have HSEE := Shut.mk (((T1.out.below hx).at 0 rfl).see.below ((Below.refl x.heap.size x).alloc (Nat.le_refl _) (.cells #[.slice none 0 0, .int .i64 0] 26)))
    obtain ⟨nb, hnb⟩ : ∃ nb, nb = x.heap.size := ⟨_, rfl⟩
    rw [← hnb] at HW ⊢
    generalize x.alloc (.cells #[.slice none 0 0, .int .i64 0] 26) = xx at HW HSEE ⊢
    clear hnb hx
    try simp only [Act.put, qA, qB, qC]
    refine wpD_onecall (f := 27) (args := #[.agg #[.slice cz3 zn dz3, .int .i64 zx], .slice va k vc, .int .i64 1]) (i := 4) (by kernel_rfl) rfl (by rfl) (fun x hx => by go_simp) (fun x hx => (HIB2.out x _ _ _ (HSEE.out.below hx) (HW.out.below hx).bel).mono ?_)
    rintro e y2 ⟨vv, rfl, hans, hb2⟩
    refine ⟨_, rfl, hb2, ?_⟩
    obtain ⟨g9, o9, n9, d9, rfl⟩ := tans_some hans HBO.out.l1
    have hn9 := (see_node hans.see HBO.out.l1).1.symm
    rw [← HBN.out.1] at hn9
    subst hn9
    rw [← HBN.out.2] at hans ⊢
    obtain ⟨lo9, hi9, hcall⟩ := (HW.out.below hx).call hans hb2
    have HY := Shut.mk hcall
    clear hcall hans hb2
    try simp only [Act.put, qA, qB, qC]
    clear hx HW HSEE
    refine wpD_pure (i := 5) (v := ?ve7) rfl (by kernel_rfl) (by kernel_rfl) (by kernel_rfl) (by kernel_rfl) (fun _ _ _ h => h) (by rfl) ?hye7 ?reste7
    case hye7 => (intro x; go_simp; try with_reducible rfl)
    try simp only [Act.put, qA, qB, qC]
    refine wpD_pure (i := 6) (v := ?ve8) rfl (by kernel_rfl) (by kernel_rfl) (by kernel_rfl) (by kernel_rfl) (fun _ _ _ h => h) (by rfl) ?hye8 ?reste8
    case hye8 => (intro x; go_simp; try with_reducible rfl)
    try simp only [Act.put, qA, qB, qC]
    refine wpD_pure (i := 7) (v := ?ve9) rfl (by kernel_rfl) (by kernel_rfl) (by kernel_rfl) (by kernel_rfl) (fun _ _ _ h => h) (by rfl) ?hye9 ?reste9
    case hye9 => (intro x; go_simp; try with_reducible rfl)
    try simp only [Act.put, qA, qB, qC]
    have HY2 := HY
    clear HY
    refine wpD_tail (by kernel_rfl) ?_
    intro x5 hx5
    have HY3 := Shut.mk (HY2.out.below hx5)
    obtain ⟨q0, qf0⟩ := (HY3.out.mb.at 0 rfl).1.2 0 _ rfl
    obtain ⟨q1, qf1⟩ := (HY3.out.mb.at 0 rfl).1.2 1 _ rfl
    refine wpA_step (y := (x5.setCell ⟨nb, 0, none⟩ (.slice (some ⟨g9, o9, none⟩) bn d9)).setCell ⟨nb, 1, none⟩ (.int .i64 bx)) (i := 9) (by kernel_rfl) rfl (by rfl) (by go_simp) ?_
    have HZ := Shut.mk ((HY3.out.setBox 0 rfl 0 (.slice (some ⟨g9, o9, none⟩) bn d9) (by simp)).setBox 0 rfl 1 (.int .i64 bx) (by simp))
    clear q0 qf0 q1 qf1 hx5 HY2 HY3
    simp only [Act.put]
    refine wpA_val (i := 10) (v := .int .i64 ib) rfl (by kernel_rfl) (by kernel_rfl) (by kernel_rfl) (fun _ _ _ h => h) (by rfl) (fun x => by go_simp) ?_
    try simp only [Act.put, qA, qB, qC]
    refine wpA_done (by kernel_rfl) ?_ _
    go_wp2_with fail
    go_meet
    case rel => exact ⟨nb, g9, o9, d9, _, _, dz3, _, _, cz3, rfl, rfl, ⟨HZ.out⟩⟩
  ·have T0 := Shut.mk ((HTX.out x hx).new #[.slice none 0 0, .int .i64 0] 26)
   obtain ⟨nb, hnb⟩ : ∃ nb, nb = x.heap.size := ⟨_, rfl⟩
   rw [← hnb] at T0 ⊢
   generalize x.alloc (.cells #[.slice none 0 0, .int .i64 0] 26) = xx at T0 ⊢
   clear hnb hx
   try simp only [Act.put, qA, qB, qC]
   refine wpD_onecall (f := 28) (args := #[]) (i := 0) (by kernel_rfl) rfl (by rfl) (fun x hx => by go_simp) (fun x hx => (implTreeNew x).mono ?_)
   rintro e y ⟨u1, rfl, hA, hby⟩
   refine ⟨_, rfl, hby, ?_⟩
   obtain ⟨cz3, dz3, rfl⟩ := tans_len hA
   rw [← HZN.out.1, ← HZN.out.2] at hA ⊢
   obtain ⟨lz3, hz3, hcall0⟩ := (T0.out.below hx).call hA hby
   have T1 := Shut.mk hcall0
   clear hA hby hcall0 hx T0
   try simp only [Act.put, qA, qB, qC]
   refine wpD_onecall (f := 27) (args := #[.agg #[.slice cz3 zn dz3, .int .i64 zx], .slice va k vc, .int .i64 1]) (i := 4) (by kernel_rfl) rfl (by rfl) (fun x hx => by go_simp) (fun x hx => (HIB2.out x _ _ _ ((T1.out.below hx).at 0 rfl).see (T1.out.below hx).bel).mono ?_)
   rintro e y2 ⟨vv, rfl, hans, hb2⟩
   refine ⟨_, rfl, hb2, ?_⟩
   obtain ⟨g9, o9, n9, d9, rfl⟩ := tans_some hans HBO.out.l1
   have hn9 := (see_node hans.see HBO.out.l1).1.symm
   rw [← HBN.out.1] at hn9
   subst hn9
   rw [← HBN.out.2] at hans ⊢
   obtain ⟨lo9, hi9, hcall⟩ := (T1.out.below hx).call hans hb2
   have HY := Shut.mk hcall
   clear hcall hans hb2
   try simp only [Act.put, qA, qB, qC]
   clear hx
   refine wpD_pure (i := 5) (v := ?ve10) rfl (by kernel_rfl) (by kernel_rfl) (by kernel_rfl) (by kernel_rfl) (fun _ _ _ h => h) (by rfl) ?hye10 ?reste10
   case hye10 => (intro x; go_simp; try with_reducible rfl)
   try simp only [Act.put, qA, qB, qC]
   refine wpD_pure (i := 6) (v := ?ve11) rfl (by kernel_rfl) (by kernel_rfl) (by kernel_rfl) (by kernel_rfl) (fun _ _ _ h => h) (by rfl) ?hye11 ?reste11
   case hye11 => (intro x; go_simp; try with_reducible rfl)
   try simp only [Act.put, qA, qB, qC]
   refine wpD_pure (i := 7) (v := ?ve12) rfl (by kernel_rfl) (by kernel_rfl) (by kernel_rfl) (by kernel_rfl) (fun _ _ _ h => h) (by rfl) ?hye12 ?reste12
   case hye12 => (intro x; go_simp; try with_reducible rfl)
   try simp only [Act.put, qA, qB, qC]
   have HY2 := HY
   clear HY
   refine wpD_tail (by kernel_rfl) ?_
   intro x5 hx5
   have HY3 := Shut.mk (HY2.out.below hx5)
   obtain ⟨q0, qf0⟩ := (HY3.out.mb.at 0 rfl).1.2 0 _ rfl
   obtain ⟨q1, qf1⟩ := (HY3.out.mb.at 0 rfl).1.2 1 _ rfl
   refine wpA_step (y := (x5.setCell ⟨nb, 0, none⟩ (.slice (some ⟨g9, o9, none⟩) bn d9)).setCell ⟨nb, 1, none⟩ (.int .i64 bx)) (i := 9) (by kernel_rfl) rfl (by rfl) (by go_simp) ?_
   have HZ := Shut.mk ((HY3.out.setBox 0 rfl 0 (.slice (some ⟨g9, o9, none⟩) bn d9) (by simp)).setBox 0 rfl 1 (.int .i64 bx) (by simp))
   clear q0 qf0 q1 qf1 hx5 HY2 HY3
   simp only [Act.put]
   refine wpA_val (i := 10) (v := .int .i64 ib) rfl (by kernel_rfl) (by kernel_rfl) (by kernel_rfl) (fun _ _ _ h => h) (by rfl) (fun x => by go_simp) ?_
   try simp only [Act.put, qA, qB, qC]
   refine wpA_done (by kernel_rfl) ?_ _
   go_wp2_with fail
   go_meet
   case rel => exact ⟨nb, g9, o9, d9, _, _, dz3, _, _, cz3, rfl, rfl, ⟨HZ.out⟩⟩
 case rest =>
 obtain ⟨b9, g9, o9, d9, lo9, hi9, dz3, lz3, hz3, cz3, rfl, rfl, hS⟩ := hcut
 clear HT
 have HT := hS
 clear hS
 obtain ⟨w7, rfl⟩ : ∃ w7, w7 = wc := ⟨_, rfl⟩
 go_upto_region 8 with fail
 go_cut [11, 12] from 49 to 57 (fun u8 u9 wq => ∃ (b11 g11 o11 d11 lo11 hi11 : Nat), u8 = .pointer (some ⟨b11, 0, none⟩) ∧ u9 = .int .i64 G ∧ Shut (TL w1 wq [(b11, [.slice (some ⟨g11, o11, none⟩) an d11, .int .i64 ax]), (b9, [.slice (some ⟨g9, o9, none⟩) bn d9, .int .i64 bx]), (b6, [.slice (some ⟨g6, o6, none⟩) an d6, .int .i64 ax]), (b4, [.slice (some ⟨g4, o4, none⟩) an d4, .int .i64 ax])] [(.agg #[.slice (some ⟨g11, o11, none⟩) an d11, .int .i64 ax], AT, lo11, hi11), (.agg #[.slice (some ⟨g9, o9, none⟩) bn d9, .int .i64 bx], BT, lo9, hi9), (.agg #[.slice cz3 zn dz3, .int .i64 zx], newX, lz3, hz3), (.agg #[.slice (some ⟨g6, o6, none⟩) an d6, .int .i64 ax], AT, lo6, hi6), (.agg #[.slice cz2 zn dz2, .int .i64 zx], newX, lz2, hz2), (.agg #[.slice (some ⟨g4, o4, none⟩) an d4, .int .i64 ax], AT, lo4, hi4), (.agg #[.slice cz1 zn dz1, .int .i64 zx], newX, lz1, hz1)] []))
 case first =>
  have HTX : Shut (∀ x, Later w7.drew x → TL w1 x [(b9, [.slice (some ⟨g9, o9, none⟩) bn d9, .int .i64 bx]), (b6, [.slice (some ⟨g6, o6, none⟩) an d6, .int .i64 ax]), (b4, [.slice (some ⟨g4, o4, none⟩) an d4, .int .i64 ax])] [(.agg #[.slice (some ⟨g9, o9, none⟩) bn d9, .int .i64 bx], BT, lo9, hi9), (.agg #[.slice cz3 zn dz3, .int .i64 zx], newX, lz3, hz3), (.agg #[.slice (some ⟨g6, o6, none⟩) an d6, .int .i64 ax], AT, lo6, hi6), (.agg #[.slice cz2 zn dz2, .int .i64 zx], newX, lz2, hz2), (.agg #[.slice (some ⟨g4, o4, none⟩) an d4, .int .i64 ax], AT, lo4, hi4), (.agg #[.slice cz1 zn dz1, .int .i64 zx], newX, lz1, hz1)] []) := ⟨fun x hx => HT.out.below (Below.trans (Below.drew (Below.refl _ _)) hx)⟩
  have HLE : Shut (∀ x, Later w7.drew x → x.cell? ⟨b9, 0, none⟩ = some (.slice (some ⟨g9, o9, none⟩) bn d9) ∧ x.cell? ⟨b9, 1, none⟩ = some (.int .i64 bx)) := ⟨fun x hx => by
   have M := (HTX.out x hx).mb
   exact ⟨((M.at 0 rfl).1.2 0 _ rfl).1, ((M.at 0 rfl).1.2 1 _ rfl).1⟩⟩
  refine wp_region_set (fun j => decide (j = 6 ∨ j = 7 ∨ j = 8 ∨ 9 < j)) (by kernel_rfl) ?_
  refine wpD_val (i := 0) (v := ?ve13) rfl (by kernel_rfl) (by kernel_rfl) (by kernel_rfl) (by kernel_rfl) (fun _ _ _ h => h) (by rfl) ?hye13 ?reste13
  case hye13 => (intro x hx; obtain ⟨d0, d1⟩ := HLE.out x hx; go_simp; try with_reducible rfl)
  try simp only [Act.put, qA, qB, qC]
  refine wpD_val (i := 1) (v := ?ve14) rfl (by kernel_rfl) (by kernel_rfl) (by kernel_rfl) (by kernel_rfl) (fun _ _ _ h => h) (by rfl) ?hye14 ?reste14
  case hye14 => (intro x hx; obtain ⟨d0, d1⟩ := HLE.out x hx; go_simp; try with_reducible rfl)
  try simp only [Act.put, qA, qB, qC]
  refine wpD_val (i := 2) (v := ?ve15) rfl (by kernel_rfl) (by kernel_rfl) (by kernel_rfl) (by kernel_rfl) (fun _ _ _ h => h) (by rfl) ?hye15 ?reste15
  case hye15 => (intro x hx; obtain ⟨d0, d1⟩ := HLE.out x hx; go_simp; try with_reducible rfl)
  try simp only [Act.put, qA, qB, qC]
  refine wpD_val (i := 3) (v := .slice fa (ln - k) (vc - k)) rfl (by kernel_rfl) (by kernel_rfl) (by kernel_rfl) (by kernel_rfl) (fun _ _ _ h => h) (by rfl) ?hye16 ?reste16
  case hye16 => (intro x hx; obtain ⟨d0, d1⟩ := HLE.out x hx; rw [HFA.out]; unfold from9; go_simp; try with_reducible rfl)
  try simp only [Act.put, qA, qB, qC]
  refine wpD_val (i := 4) (v := ?ve17) rfl (by kernel_rfl) (by kernel_rfl) (by kernel_rfl) (by kernel_rfl) (fun _ _ _ h => h) (by rfl) ?hye17 ?reste17
  case hye17 => (intro x hx; obtain ⟨d0, d1⟩ := HLE.out x hx; go_simp; try with_reducible rfl)
  try simp only [Act.put, qA, qB, qC]
  refine wpD_callbox (f := 27) (args := #[.agg #[.slice (some ⟨g9, o9, none⟩) bn d9, .int .i64 bx], .slice fa (ln - k) (vc - k), .int .i64 ib]) (C := #[.slice none 0 0, .int .i64 0]) (t := 26) (i := 5) (j := 9) (by kernel_rfl) rfl rfl (by rfl) (by rfl) (fun x hx => by go_simp) (fun x hx => by kernel_rfl) (fun x hx => (HIC2.out x _ _ _ ((HTX.out x hx).at 0 rfl).see (HTX.out x hx).bel).mono ?_) (fun x hx => ?_)
  ·rintro e y2 ⟨vv, rfl, hans, hb2⟩
   refine ⟨_, rfl, hb2, ?_⟩
   obtain ⟨g11, o11, n11, d11, rfl⟩ := tans_some hans HAOK.out.l1
   have hn9 := (see_node hans.see HAOK.out.l1).1.symm
   rw [← HAN.out.1] at hn9
   subst hn9
   rw [← HAN.out.2] at hans ⊢
   obtain ⟨lo9, hi9, hcall⟩ := (HTX.out x hx).call hans hb2
   have HY := Shut.mk hcall
   clear hcall hans hb2
   try simp only [Act.put, qA, qB, qC]
   clear hx
   refine wpD_pure (i := 6) (v := ?ve18) rfl (by kernel_rfl) (by kernel_rfl) (by kernel_rfl) (by kernel_rfl) (fun _ _ _ h => h) (by rfl) ?hye18 ?reste18
   case hye18 => (intro x; go_simp; try with_reducible rfl)
   try simp only [Act.put, qA, qB, qC]
   refine wpD_pure (i := 7) (v := ?ve19) rfl (by kernel_rfl) (by kernel_rfl) (by kernel_rfl) (by kernel_rfl) (fun _ _ _ h => h) (by rfl) ?hye19 ?reste19
   case hye19 => (intro x; go_simp; try with_reducible rfl)
   try simp only [Act.put, qA, qB, qC]
   refine wpD_pure (i := 8) (v := ?ve20) rfl (by kernel_rfl) (by kernel_rfl) (by kernel_rfl) (by kernel_rfl) (fun _ _ _ h => h) (by rfl) ?hye20 ?reste20
   case hye20 => (intro x; go_simp; try with_reducible rfl)
   try simp only [Act.put, qA, qB, qC]
   refine wpD_one (i := 9) (by kernel_rfl) rfl (by rfl) (fun x2 hx2 => ⟨.pointer (some ⟨x2.heap.size, 0, none⟩), x2.alloc (.cells #[.slice none 0 0, .int .i64 0] 26), by kernel_rfl, (Below.refl _ _).alloc (Nat.le_refl _) _, ?_⟩)
   have HY2 := Shut.mk ((HY.out.below hx2).new #[.slice none 0 0, .int .i64 0] 26)
   obtain ⟨nb, hnb⟩ : ∃ nb, nb = x2.heap.size := ⟨_, rfl⟩
   rw [← hnb] at HY2 ⊢
   clear hx2 hnb HY
   try simp only [Act.put, qA, qB, qC]
   refine wpD_tail (by kernel_rfl) ?_
   intro x5 hx5
   have HY3 := Shut.mk (HY2.out.below hx5)
   obtain ⟨q0, qf0⟩ := (HY3.out.mb.at 0 rfl).1.2 0 _ rfl
   obtain ⟨q1, qf1⟩ := (HY3.out.mb.at 0 rfl).1.2 1 _ rfl
   refine wpA_step (y := (x5.setCell ⟨nb, 0, none⟩ (.slice (some ⟨g11, o11, none⟩) an d11)).setCell ⟨nb, 1, none⟩ (.int .i64 ax)) (i := 10) (by kernel_rfl) rfl (by rfl) (by go_simp) ?_
   have HZ := Shut.mk ((HY3.out.setBox 0 rfl 0 (.slice (some ⟨g11, o11, none⟩) an d11) (by simp)).setBox 0 rfl 1 (.int .i64 ax) (by simp))
   clear q0 qf0 q1 qf1 hx5 HY2 HY3
   simp only [Act.put]
   refine wpA_val (i := 11) (v := .int .i64 G) rfl (by kernel_rfl) (by kernel_rfl) (by kernel_rfl) (fun _ _ _ h => h) (by rfl) (fun x => by go_simp) ?_
   try simp only [Act.put, qA, qB, qC]
   refine wpA_done (by kernel_rfl) ?_ _
   go_wp2_with fail
   go_meet
   case rel => exact ⟨nb, g11, o11, d11, _, _, rfl, rfl, ⟨HZ.out⟩⟩
  ·have HW := Shut.mk ((HTX.out x hx).new #[.slice none 0 0, .int .i64 0] 26)
   have HSEE := Shut.mk (((HTX.out x hx).at 0 rfl).see.below ((Below.refl x.heap.size x).alloc (Nat.le_refl _) (.cells #[.slice none 0 0, .int .i64 0] 26)))
   obtain ⟨nb, hnb⟩ : ∃ nb, nb = x.heap.size := ⟨_, rfl⟩
   rw [← hnb] at HW ⊢
   generalize x.alloc (.cells #[.slice none 0 0, .int .i64 0] 26) = xx at HW HSEE ⊢
   clear hnb hx
   try simp only [Act.put, qA, qB, qC]
   refine wpD_onecall (f := 27) (args := #[.agg #[.slice (some ⟨g9, o9, none⟩) bn d9, .int .i64 bx], .slice fa (ln - k) (vc - k), .int .i64 ib]) (i := 5) (by kernel_rfl) rfl (by rfl) (fun x hx => by go_simp) (fun x hx => (HIC2.out x _ _ _ (HSEE.out.below hx) (HW.out.below hx).bel).mono ?_)
   rintro e y2 ⟨vv, rfl, hans, hb2⟩
   refine ⟨_, rfl, hb2, ?_⟩
   obtain ⟨g11, o11, n11, d11, rfl⟩ := tans_some hans HAOK.out.l1
   have hn9 := (see_node hans.see HAOK.out.l1).1.symm
   rw [← HAN.out.1] at hn9
   subst hn9
   rw [← HAN.out.2] at hans ⊢
   obtain ⟨lo9, hi9, hcall⟩ := (HW.out.below hx).call hans hb2
   have HY := Shut.mk hcall
   clear hcall hans hb2
   try simp only [Act.put, qA, qB, qC]
   clear hx HW HSEE
   refine wpD_pure (i := 6) (v := ?ve21) rfl (by kernel_rfl) (by kernel_rfl) (by kernel_rfl) (by kernel_rfl) (fun _ _ _ h => h) (by rfl) ?hye21 ?reste21
   case hye21 => (intro x; go_simp; try with_reducible rfl)
   try simp only [Act.put, qA, qB, qC]
   refine wpD_pure (i := 7) (v := ?ve22) rfl (by kernel_rfl) (by kernel_rfl) (by kernel_rfl) (by kernel_rfl) (fun _ _ _ h => h) (by rfl) ?hye22 ?reste22
   case hye22 => (intro x; go_simp; try with_reducible rfl)
   try simp only [Act.put, qA, qB, qC]
   refine wpD_pure (i := 8) (v := ?ve23) rfl (by kernel_rfl) (by kernel_rfl) (by kernel_rfl) (by kernel_rfl) (fun _ _ _ h => h) (by rfl) ?hye23 ?reste23
   case hye23 => (intro x; go_simp; try with_reducible rfl)
   try simp only [Act.put, qA, qB, qC]
   have HY2 := HY
   clear HY
   refine wpD_tail (by kernel_rfl) ?_
   intro x5 hx5
   have HY3 := Shut.mk (HY2.out.below hx5)
   obtain ⟨q0, qf0⟩ := (HY3.out.mb.at 0 rfl).1.2 0 _ rfl
   obtain ⟨q1, qf1⟩ := (HY3.out.mb.at 0 rfl).1.2 1 _ rfl
   refine wpA_step (y := (x5.setCell ⟨nb, 0, none⟩ (.slice (some ⟨g11, o11, none⟩) an d11)).setCell ⟨nb, 1, none⟩ (.int .i64 ax)) (i := 10) (by kernel_rfl) rfl (by rfl) (by go_simp) ?_
   have HZ := Shut.mk ((HY3.out.setBox 0 rfl 0 (.slice (some ⟨g11, o11, none⟩) an d11) (by simp)).setBox 0 rfl 1 (.int .i64 ax) (by simp))
   clear q0 qf0 q1 qf1 hx5 HY2 HY3
   simp only [Act.put]
   refine wpA_val (i := 11) (v := .int .i64 G) rfl (by kernel_rfl) (by kernel_rfl) (by kernel_rfl) (fun _ _ _ h => h) (by rfl) (fun x => by go_simp) ?_
   try simp only [Act.put, qA, qB, qC]
   refine wpA_done (by kernel_rfl) ?_ _
   go_wp2_with fail
   go_meet
   case rel => exact ⟨nb, g11, o11, d11, _, _, rfl, rfl, ⟨HZ.out⟩⟩
 case rest =>
 obtain ⟨b11, g11, o11, d11, lo11, hi11, rfl, rfl, hS⟩ := hcut
 clear HT
 have HT := hS
 clear hS
 obtain ⟨w8, rfl⟩ : ∃ w8, w8 = wc := ⟨_, rfl⟩
 have b4x0 := ((HT.out.mb.at 3 rfl).1.2 0 _ rfl).1
 have b4x1 := ((HT.out.mb.at 3 rfl).1.2 1 _ rfl).1
 go_upto_region 10 with (go_at_call 24; refine (implGroupsOf _ _ AT _ _ 1 (HT.out.at 5 rfl).see HAOK.out.fit HAOK.out.int).mono ?_; rintro e w9 ⟨vv, rfl, hia, hb⟩; obtain ⟨ga, gc, rfl, hgr⟩ := hia.crow; have HGR := Shut.mk hgr; replace HT := Shut.mk (HT.out.below hb); clear hia hb hgr b4x0 b4x1)
 obtain ⟨Gs, hGs⟩ : ∃ g, g = grpX AT 1 := ⟨_, rfl⟩
 rw [← hGs] at HGR HGI HUP HGL ⊢
 obtain ⟨gl, hgl⟩ : ∃ n, n = Gs.length := ⟨_, rfl⟩
 have HGN := Shut.mk hgl
 rw [← hgl] at HGL HGI ⊢
 have gl5 : gl ≤ 560 := HGL.out
 clear hGs hgl
 go_wp2_with fail
 go_loopw [14, 15] (fun nv iv wr => ∃ (i : Nat) (s : Int), nv = .int .i64 s ∧ iv = .int .i64 i ∧ i ≤ an ∧ Shut (s = sm (fun n => (n.pieces.length : Int)) (AT.nodes.take i)) ∧ Shut (TL w1 wr [(b11, [.slice (some ⟨g11, o11, none⟩) an d11, .int .i64 ax]), (b9, [.slice (some ⟨g9, o9, none⟩) bn d9, .int .i64 bx]), (b6, [.slice (some ⟨g6, o6, none⟩) an d6, .int .i64 ax]), (b4, [.slice (some ⟨g4, o4, none⟩) an d4, .int .i64 ax])] [(.agg #[.slice (some ⟨g11, o11, none⟩) an d11, .int .i64 ax], AT, lo11, hi11), (.agg #[.slice (some ⟨g9, o9, none⟩) bn d9, .int .i64 bx], BT, lo9, hi9), (.agg #[.slice cz3 zn dz3, .int .i64 zx], newX, lz3, hz3), (.agg #[.slice (some ⟨g6, o6, none⟩) an d6, .int .i64 ax], AT, lo6, hi6), (.agg #[.slice cz2 zn dz2, .int .i64 zx], newX, lz2, hz2), (.agg #[.slice (some ⟨g4, o4, none⟩) an d4, .int .i64 ax], AT, lo4, hi4), (.agg #[.slice cz1 zn dz1, .int .i64 zx], newX, lz1, hz1)] []) ∧ Shut (Below w9.heap.size w9 wr)) (fun _ iv _ => an - (intOf iv).toNat)
 case atStart => exact ⟨0, 0, rfl, rfl, Nat.zero_le _, ⟨by rw [List.take_zero]; unfold sm; rfl⟩, HT, ⟨Below.refl _ _⟩⟩
 case round =>
  clear HT
  obtain ⟨i, s, rfl, rfl, hil, HS, HT, HB9⟩ := hrel
  have b4x0 := ((HT.out.mb.at 3 rfl).1.2 0 _ rfl).1
  have b4x1 := ((HT.out.mb.at 3 rfl).1.2 1 _ rfl).1
  by_cases hlt : i < an
  case pos =>
   have hia : i < AT.nodes.length := by have := HAN.out.1; omega
   obtain ⟨r, hr, hn⟩ := (see_node (HT.out.at 5 rfl).see HAOK.out.l1).2.2.2 i hia
   have c7 := hn.2.2.2.2.2.2.2.1
   have hps := pieces_small AT HAOK.out.ok i
   have hps2 := pieces_small AT HAOK.out.ok (i + 1)
   have hst := sm_take (fun n => (n.pieces.length : Int)) AT.nodes i hia
   rw [← HS.out] at hps hst
   rw [hst, ← hr] at hps2
   rw [← hr] at hst
   have HST := Shut.mk hst
   obtain ⟨pl, hpl⟩ : ∃ n, n = r.nd.pieces.length := ⟨_, rfl⟩
   rw [← hpl] at c7 hps2 HST
   have i0 : (0 : Int) ≤ (i : Int) := by omega
   have i1 : (i : Int) < (an : Int) := by omega
   clear hn hr hst hpl hia
   go_wp2_with fail
   go_roundw
   case rel => exact ⟨i + 1, s + pl, rfl, by go_num, by omega, ⟨HST.out.symm⟩, HT, HB9⟩
   case measure => simp [intOf]; omega
  have hall : AT.nodes.take i = AT.nodes := List.take_of_length_le (by have := HAN.out.1; omega)
  have hsl : s = (gl : Int) := by rw [HS.out, hall, ← HPL.out, ← HGI.out.1]
  have i1 : ¬ (i : Int) < (an : Int) := by omega
  have HSL := Shut.mk hsl
  clear hall hsl
  go_wp2_with fail
  clear b4x0 b4x1
  obtain ⟨wo, rfl⟩ : ∃ wo, wo = wr := ⟨_, rfl⟩
  go_loopw [16] (fun jv wr => ∃ (j : Nat), jv = .int .i64 j ∧ j ≤ gl ∧ Shut (TL w1 wr [(b11, [.slice (some ⟨g11, o11, none⟩) an d11, .int .i64 ax]), (b9, [.slice (some ⟨g9, o9, none⟩) bn d9, .int .i64 bx]), (b6, [.slice (some ⟨g6, o6, none⟩) an d6, .int .i64 ax]), (b4, [.slice (some ⟨g4, o4, none⟩) an d4, .int .i64 ax])] [(.agg #[.slice (some ⟨g11, o11, none⟩) an d11, .int .i64 ax], AT, lo11, hi11), (.agg #[.slice (some ⟨g9, o9, none⟩) bn d9, .int .i64 bx], BT, lo9, hi9), (.agg #[.slice cz3 zn dz3, .int .i64 zx], newX, lz3, hz3), (.agg #[.slice (some ⟨g6, o6, none⟩) an d6, .int .i64 ax], AT, lo6, hi6), (.agg #[.slice cz2 zn dz2, .int .i64 zx], newX, lz2, hz2), (.agg #[.slice (some ⟨g4, o4, none⟩) an d4, .int .i64 ax], AT, lo4, hi4), (.agg #[.slice cz1 zn dz1, .int .i64 zx], newX, lz1, hz1)] []) ∧ Shut (Below w9.heap.size w9 wr)) (fun jv _ => gl - (intOf jv).toNat)
  case atStart => exact ⟨0, rfl, Nat.zero_le _, HT, HB9⟩
  case round =>
   clear HT HB9
   obtain ⟨j, rfl, hjl, HT, HB9⟩ := hrel
   by_cases hlt2 : j < gl
   case neg =>
    have j1 : ¬ (j : Int) < (gl : Int) := by omega
    have hGG : (G == G) = true := by simp
    have hsg : (s == (gl : Int)) = true := by rw [HSL.out]; simp
    have F1 : Shut True := ⟨trivial⟩
    have b11x0 := ((HT.out.mb.at 0 rfl).1.2 0 _ rfl).1
    have b11x1 := ((HT.out.mb.at 0 rfl).1.2 1 _ rfl).1
    have b6x0 := ((HT.out.mb.at 2 rfl).1.2 0 _ rfl).1
    have b6x1 := ((HT.out.mb.at 2 rfl).1.2 1 _ rfl).1
    have b4x0 := ((HT.out.mb.at 3 rfl).1.2 0 _ rfl).1
    have b4x1 := ((HT.out.mb.at 3 rfl).1.2 1 _ rfl).1
    go_wp2_with (first
     | (go_at_call 17; refine (implTreeOk _ _ AT _ _ (HT.out.at 5 rfl).see HAOK.out.fit HAOK.out.int).mono ?_; rintro e y3 ⟨rfl, hb⟩; rw [HAOK.out.ok]; replace HT := Shut.mk (HT.out.below hb); clear hb b11x0 b11x1 b6x0 b6x1 b4x0 b4x1)
     | (go_at_call 16; have F2 := F1; refine (sameTree_val (HT.out.at 5 rfl).see (HT.out.at 3 rfl).see HAOK.out.fit).mono ?_; rintro e y1 ⟨rfl, hb⟩; replace HT := Shut.mk (HT.out.below hb); clear hb F1 F2 b11x0 b11x1 b6x0 b6x1 b4x0 b4x1; have b11x0 := ((HT.out.mb.at 0 rfl).1.2 0 _ rfl).1; have b11x1 := ((HT.out.mb.at 0 rfl).1.2 1 _ rfl).1; have b6x0 := ((HT.out.mb.at 2 rfl).1.2 0 _ rfl).1; have b6x1 := ((HT.out.mb.at 2 rfl).1.2 1 _ rfl).1; have b4x0 := ((HT.out.mb.at 3 rfl).1.2 0 _ rfl).1; have b4x1 := ((HT.out.mb.at 3 rfl).1.2 1 _ rfl).1)
     | (go_at_call 16; refine (sameTree_val (HT.out.at 5 rfl).see (HT.out.at 0 rfl).see HAOK.out.fit).mono ?_; rintro e y1 ⟨rfl, hb⟩; replace HT := Shut.mk (HT.out.below hb); clear hb b11x0 b11x1 b6x0 b6x1 b4x0 b4x1; have b11x0 := ((HT.out.mb.at 0 rfl).1.2 0 _ rfl).1; have b11x1 := ((HT.out.mb.at 0 rfl).1.2 1 _ rfl).1; have b6x0 := ((HT.out.mb.at 2 rfl).1.2 0 _ rfl).1; have b6x1 := ((HT.out.mb.at 2 rfl).1.2 1 _ rfl).1; have b4x0 := ((HT.out.mb.at 3 rfl).1.2 0 _ rfl).1; have b4x1 := ((HT.out.mb.at 3 rfl).1.2 1 _ rfl).1))
    go_ret
    exact ⟨rfl, HB1.out.trans (HT.out.bel.mono HB1.out.size)⟩
   have j0 : (0 : Int) ≤ (j : Int) := by omega
   have j1 : (j : Int) < (gl : Int) := by omega
   have hjg : j < Gs.length := by have := HGN.out; omega
   obtain ⟨bg, bo, hba, lbg, hbc⟩ := HGR.out (by rw [ics_len]; omega)
   subst hba
   have hcj : Shut (∀ W, Below w9.heap.size w9 W → W.cell? ⟨bg, bo + j, none⟩ = some (.int .i64 Gs[j])) := ⟨fun W hb => (hb.cell (p := ⟨bg, bo + j, none⟩) lbg).trans (hbc j _ (by simp [ics, hjg]))⟩
   have hlg := HGI.out.2 Gs[j] (List.getElem_mem hjg)
   have hjm : ∃ jm : Nat, jm < gl ∧ (0 < j → IntKind.i64.wrap ((j : Int) - 1) = (jm : Int) ∧ jm + 1 = j) := ⟨j - 1, by omega, fun h => ⟨by rw [IntWalk.i64_in _ ⟨by omega, by omega⟩]; omega, by omega⟩⟩
   obtain ⟨jm, hjm1, hjm2⟩ := hjm
   have hjmg : jm < Gs.length := by have := HGN.out; omega
   have hcm : Shut (∀ W, Below w9.heap.size w9 W → W.cell? ⟨bg, bo + jm, none⟩ = some (.int .i64 Gs[jm])) := ⟨fun W hb => (hb.cell (p := ⟨bg, bo + jm, none⟩) lbg).trans (hbc jm _ (by simp [ics, hjmg]))⟩
   have hup : 0 < j → Gs[jm] < Gs[j] := fun h => (List.pairwise_iff_getElem.1 HUP.out) jm j hjmg hjg (by have := (hjm2 h).2; omega)
   generalize Gs[j] = yj at hcj hlg hup
   generalize Gs[jm] = ym at hcm hup
   have g1 : ¬ G ≤ yj := by omega
   have g1b : decide (G ≤ yj) = false := by simpa using g1
   have jm0 : (0 : Int) ≤ (jm : Int) := by omega
   have jm1 : (jm : Int) < (gl : Int) := by omega
   clear hbc hjg hjmg hlg
   go_upto_region 18 with fail
   by_cases hj0 : 0 < j
   case pos =>
    obtain ⟨hw, -⟩ := hjm2 hj0
    have hup2 := hup hj0
    have g2 : ¬ yj ≤ ym := by omega
    have g2b : decide (yj ≤ ym) = false := by simpa using g2
    have j00 : (0 : Int) < (j : Int) := by omega
    have j00b : decide ((0 : Int) < (j : Int)) = true := by simpa using j00
    clear hjm2 hup hup2
    refine wp_region_R Later ⟨Later.refl, Later.trans⟩ (by kernel_rfl) ?_
    have HTX : Shut (∀ x, Later wr.drew x → TL w1 x [(b11, [.slice (some ⟨g11, o11, none⟩) an d11, .int .i64 ax]), (b9, [.slice (some ⟨g9, o9, none⟩) bn d9, .int .i64 bx]), (b6, [.slice (some ⟨g6, o6, none⟩) an d6, .int .i64 ax]), (b4, [.slice (some ⟨g4, o4, none⟩) an d4, .int .i64 ax])] [(.agg #[.slice (some ⟨g11, o11, none⟩) an d11, .int .i64 ax], AT, lo11, hi11), (.agg #[.slice (some ⟨g9, o9, none⟩) bn d9, .int .i64 bx], BT, lo9, hi9), (.agg #[.slice cz3 zn dz3, .int .i64 zx], newX, lz3, hz3), (.agg #[.slice (some ⟨g6, o6, none⟩) an d6, .int .i64 ax], AT, lo6, hi6), (.agg #[.slice cz2 zn dz2, .int .i64 zx], newX, lz2, hz2), (.agg #[.slice (some ⟨g4, o4, none⟩) an d4, .int .i64 ax], AT, lo4, hi4), (.agg #[.slice cz1 zn dz1, .int .i64 zx], newX, lz1, hz1)] []) := ⟨fun x hx => HT.out.below (Below.trans (Below.drew (Below.refl _ _)) hx)⟩
    have HLE : Shut (∀ x, Later wr.drew x → x.cell? ⟨bg, bo + j, none⟩ = some (.int .i64 yj) ∧ x.cell? ⟨bg, bo + jm, none⟩ = some (.int .i64 ym)) := ⟨fun x hx => by
     have B := Below.trans HB9.out (Below.mono (Below.trans (Below.drew (Below.refl _ _)) hx) HB9.out.size)
     exact ⟨hcj.out x B, hcm.out x B⟩⟩
    refine wpR_val ⟨Later.refl, Later.trans⟩ (i := 0) (v := ?vr1) rfl (by kernel_rfl) (by kernel_rfl) (by kernel_rfl) (fun _ _ _ h => h) (by rfl) ?hyr1 ?restr1
    case hyr1 => (intro x hx; obtain ⟨d0, d1⟩ := HLE.out x hx; go_simp; try with_reducible rfl)
    try simp only [Act.put, qA, qB, qC]
    refine wpR_val ⟨Later.refl, Later.trans⟩ (i := 1) (v := ?vr2) rfl (by kernel_rfl) (by kernel_rfl) (by kernel_rfl) (fun _ _ _ h => h) (by rfl) ?hyr2 ?restr2
    case hyr2 => (intro x hx; obtain ⟨d0, d1⟩ := HLE.out x hx; go_simp; try with_reducible rfl)
    try simp only [Act.put, qA, qB, qC]
    refine wpR_val ⟨Later.refl, Later.trans⟩ (i := 2) (v := ?vr3) rfl (by kernel_rfl) (by kernel_rfl) (by kernel_rfl) (fun _ _ _ h => h) (by rfl) ?hyr3 ?restr3
    case hyr3 => (intro x hx; obtain ⟨d0, d1⟩ := HLE.out x hx; go_simp; try with_reducible rfl)
    try simp only [Act.put, qA, qB, qC]
    refine wpR_val ⟨Later.refl, Later.trans⟩ (i := 3) (v := ?vr4) rfl (by kernel_rfl) (by kernel_rfl) (by kernel_rfl) (fun _ _ _ h => h) (by rfl) ?hyr4 ?restr4
    case hyr4 => (intro x hx; obtain ⟨d0, d1⟩ := HLE.out x hx; go_simp; try with_reducible rfl)
    try simp only [Act.put, qA, qB, qC]
    refine wpR_val ⟨Later.refl, Later.trans⟩ (i := 4) (v := ?vr5) rfl (by kernel_rfl) (by kernel_rfl) (by kernel_rfl) (fun _ _ _ h => h) (by rfl) ?hyr5 ?restr5
    case hyr5 => (intro x hx; obtain ⟨d0, d1⟩ := HLE.out x hx; go_simp; try with_reducible rfl)
    try simp only [Act.put, qA, qB, qC]
    refine wpR_val ⟨Later.refl, Later.trans⟩ (i := 5) (v := .bool false) rfl (by kernel_rfl) (by kernel_rfl) (by kernel_rfl) (fun _ _ _ h => h) (by rfl) ?hyr6 ?restr6
    case hyr6 => (intro x hx; obtain ⟨d0, d1⟩ := HLE.out x hx; go_simp; try with_reducible rfl)
    try simp only [Act.put, qA, qB, qC]
    refine wpR_val ⟨Later.refl, Later.trans⟩ (i := 6) (v := .bool false) rfl (by kernel_rfl) (by kernel_rfl) (by kernel_rfl) (fun _ _ _ h => h) (by rfl) ?hyr7 ?restr7
    case hyr7 => (intro x hx; obtain ⟨d0, d1⟩ := HLE.out x hx; go_simp; try with_reducible rfl)
    try simp only [Act.put, qA, qB, qC]
    refine wpR_val ⟨Later.refl, Later.trans⟩ (i := 7) (v := ?vr8) rfl (by kernel_rfl) (by kernel_rfl) (by kernel_rfl) (fun _ _ _ h => h) (by rfl) ?hyr8 ?restr8
    case hyr8 => (intro x hx; obtain ⟨d0, d1⟩ := HLE.out x hx; go_simp; try with_reducible rfl)
    try simp only [Act.put, qA, qB, qC]
    refine wpR_val ⟨Later.refl, Later.trans⟩ (i := 8) (v := .bool true)  rfl (by kernel_rfl) (by kernel_rfl) (by kernel_rfl) (fun _ _ _ h => h) (by rfl) ?hyr9 ?restr9
    case hyr9 => (intro x hx; obtain ⟨d0, d1⟩ := HLE.out x hx; go_simp; (try with_reducible rfl); all_goals omega)
    try simp only [Act.put, qA, qB, qC]
    refine wpR_val ⟨Later.refl, Later.trans⟩ (i := 9) (v := .bool true) rfl (by kernel_rfl) (by kernel_rfl) (by kernel_rfl) (fun _ _ _ h => h) (by rfl) ?hyr10 ?restr10
    case hyr10 => (intro x hx; obtain ⟨d0, d1⟩ := HLE.out x hx; go_simp; try with_reducible rfl)
    try simp only [Act.put, qA, qB, qC]
    refine wpR_val ⟨Later.refl, Later.trans⟩ (i := 10) (v := ?vr11) rfl (by kernel_rfl) (by kernel_rfl) (by kernel_rfl) (fun _ _ _ h => h) (by rfl) ?hyr11 ?restr11
    case hyr11 => (intro x hx; obtain ⟨d0, d1⟩ := HLE.out x hx; go_simp; try with_reducible rfl)
    try simp only [Act.put, qA, qB, qC]
    refine wpR_val ⟨Later.refl, Later.trans⟩ (i := 11) (v := ?vr12) rfl (by kernel_rfl) (by kernel_rfl) (by kernel_rfl) (fun _ _ _ h => h) (by rfl) ?hyr12 ?restr12
    case hyr12 => (intro x hx; obtain ⟨d0, d1⟩ := HLE.out x hx; go_simp; try with_reducible rfl)
    try simp only [Act.put, qA, qB, qC]
    refine wpR_val ⟨Later.refl, Later.trans⟩ (i := 12) (v := .int .i64 (jm : Int)) rfl (by kernel_rfl) (by kernel_rfl) (by kernel_rfl) (fun _ _ _ h => h) (by rfl) ?hyr13 ?restr13
    case hyr13 => (intro x hx; obtain ⟨d0, d1⟩ := HLE.out x hx; go_simp; try with_reducible rfl)
    try simp only [Act.put, qA, qB, qC]
    refine wpR_val ⟨Later.refl, Later.trans⟩ (i := 13) (v := ?vr14) rfl (by kernel_rfl) (by kernel_rfl) (by kernel_rfl) (fun _ _ _ h => h) (by rfl) ?hyr14 ?restr14
    case hyr14 => (intro x hx; obtain ⟨d0, d1⟩ := HLE.out x hx; go_simp; try with_reducible rfl)
    try simp only [Act.put, qA, qB, qC]
    refine wpR_val ⟨Later.refl, Later.trans⟩ (i := 14) (v := ?vr15) rfl (by kernel_rfl) (by kernel_rfl) (by kernel_rfl) (fun _ _ _ h => h) (by rfl) ?hyr15 ?restr15
    case hyr15 => (intro x hx; obtain ⟨d0, d1⟩ := HLE.out x hx; go_simp; try with_reducible rfl)
    try simp only [Act.put, qA, qB, qC]
    refine wpR_val ⟨Later.refl, Later.trans⟩ (i := 15) (v := ?vr16) rfl (by kernel_rfl) (by kernel_rfl) (by kernel_rfl) (fun _ _ _ h => h) (by rfl) ?hyr16 ?restr16
    case hyr16 => (intro x hx; obtain ⟨d0, d1⟩ := HLE.out x hx; go_simp; try with_reducible rfl)
    try simp only [Act.put, qA, qB, qC]
    refine wpR_val ⟨Later.refl, Later.trans⟩ (i := 16) (v := ?vr17) rfl (by kernel_rfl) (by kernel_rfl) (by kernel_rfl) (fun _ _ _ h => h) (by rfl) ?hyr17 ?restr17
    case hyr17 => (intro x hx; obtain ⟨d0, d1⟩ := HLE.out x hx; go_simp; try with_reducible rfl)
    try simp only [Act.put, qA, qB, qC]
    refine wpR_val ⟨Later.refl, Later.trans⟩ (i := 17) (v := ?vr18) rfl (by kernel_rfl) (by kernel_rfl) (by kernel_rfl) (fun _ _ _ h => h) (by rfl) ?hyr18 ?restr18
    case hyr18 => (intro x hx; obtain ⟨d0, d1⟩ := HLE.out x hx; go_simp; try with_reducible rfl)
    try simp only [Act.put, qA, qB, qC]
    refine wpR_val ⟨Later.refl, Later.trans⟩ (i := 18) (v := ?vr19) rfl (by kernel_rfl) (by kernel_rfl) (by kernel_rfl) (fun _ _ _ h => h) (by rfl) ?hyr19 ?restr19
    case hyr19 => (intro x hx; obtain ⟨d0, d1⟩ := HLE.out x hx; go_simp; try with_reducible rfl)
    try simp only [Act.put, qA, qB, qC]
    refine wpR_val ⟨Later.refl, Later.trans⟩ (i := 19) (v := .bool false) rfl (by kernel_rfl) (by kernel_rfl) (by kernel_rfl) (fun _ _ _ h => h) (by rfl) ?hyr20 ?restr20
    case hyr20 => (intro x hx; obtain ⟨d0, d1⟩ := HLE.out x hx; go_simp; try with_reducible rfl)
    try simp only [Act.put, qA, qB, qC]
    refine wpR_val ⟨Later.refl, Later.trans⟩ (i := 20) (v := .bool false) rfl (by kernel_rfl) (by kernel_rfl) (by kernel_rfl) (fun _ _ _ h => h) (by rfl) ?hyr21 ?restr21
    case hyr21 => (intro x hx; obtain ⟨d0, d1⟩ := HLE.out x hx; go_simp; try with_reducible rfl)
    try simp only [Act.put, qA, qB, qC]
    refine wpR_val ⟨Later.refl, Later.trans⟩ (i := 21) (v := .bool false) rfl (by kernel_rfl) (by kernel_rfl) (by kernel_rfl) (fun _ _ _ h => h) (by rfl) ?hyr22 ?restr22
    case hyr22 => (intro x hx; obtain ⟨d0, d1⟩ := HLE.out x hx; go_simp; try with_reducible rfl)
    try simp only [Act.put, qA, qB, qC]
    refine wpR_done (by kernel_rfl) ?_ _
    intro x9 hy9
    have T9 := Shut.mk (HTX.out x9 hy9)
    have B9 := Shut.mk (show Below w9.heap.size w9 x9 from Below.trans HB9.out (Below.mono (Below.trans (Below.drew (Below.refl _ _)) hy9) HB9.out.size))
    clear hy9 HTX HLE HT
    go_wp2_with fail
    go_roundw
    case rel => exact ⟨j + 1, by go_num, by omega, T9, B9⟩
    case measure => simp [intOf]; omega
   have j00 : ¬ (0 : Int) < (j : Int) := by omega
   have j00b : decide ((0 : Int) < (j : Int)) = false := by simpa using j00
   clear hjm2 hup
   refine wp_region_R Later ⟨Later.refl, Later.trans⟩ (by kernel_rfl) ?_
   have HTX : Shut (∀ x, Later wr.drew x → TL w1 x [(b11, [.slice (some ⟨g11, o11, none⟩) an d11, .int .i64 ax]), (b9, [.slice (some ⟨g9, o9, none⟩) bn d9, .int .i64 bx]), (b6, [.slice (some ⟨g6, o6, none⟩) an d6, .int .i64 ax]), (b4, [.slice (some ⟨g4, o4, none⟩) an d4, .int .i64 ax])] [(.agg #[.slice (some ⟨g11, o11, none⟩) an d11, .int .i64 ax], AT, lo11, hi11), (.agg #[.slice (some ⟨g9, o9, none⟩) bn d9, .int .i64 bx], BT, lo9, hi9), (.agg #[.slice cz3 zn dz3, .int .i64 zx], newX, lz3, hz3), (.agg #[.slice (some ⟨g6, o6, none⟩) an d6, .int .i64 ax], AT, lo6, hi6), (.agg #[.slice cz2 zn dz2, .int .i64 zx], newX, lz2, hz2), (.agg #[.slice (some ⟨g4, o4, none⟩) an d4, .int .i64 ax], AT, lo4, hi4), (.agg #[.slice cz1 zn dz1, .int .i64 zx], newX, lz1, hz1)] []) := ⟨fun x hx => HT.out.below (Below.trans (Below.drew (Below.refl _ _)) hx)⟩
   have HLE : Shut (∀ x, Later wr.drew x → x.cell? ⟨bg, bo + j, none⟩ = some (.int .i64 yj) ∧ x.cell? ⟨bg, bo + jm, none⟩ = some (.int .i64 ym)) := ⟨fun x hx => by
    have B := Below.trans HB9.out (Below.mono (Below.trans (Below.drew (Below.refl _ _)) hx) HB9.out.size)
    exact ⟨hcj.out x B, hcm.out x B⟩⟩
   refine wpR_val ⟨Later.refl, Later.trans⟩ (i := 0) (v := ?vr23) rfl (by kernel_rfl) (by kernel_rfl) (by kernel_rfl) (fun _ _ _ h => h) (by rfl) ?hyr23 ?restr23
   case hyr23 => (intro x hx; obtain ⟨d0, d1⟩ := HLE.out x hx; go_simp; try with_reducible rfl)
   try simp only [Act.put, qA, qB, qC]
   refine wpR_val ⟨Later.refl, Later.trans⟩ (i := 1) (v := ?vr24) rfl (by kernel_rfl) (by kernel_rfl) (by kernel_rfl) (fun _ _ _ h => h) (by rfl) ?hyr24 ?restr24
   case hyr24 => (intro x hx; obtain ⟨d0, d1⟩ := HLE.out x hx; go_simp; try with_reducible rfl)
   try simp only [Act.put, qA, qB, qC]
   refine wpR_val ⟨Later.refl, Later.trans⟩ (i := 2) (v := ?vr25) rfl (by kernel_rfl) (by kernel_rfl) (by kernel_rfl) (fun _ _ _ h => h) (by rfl) ?hyr25 ?restr25
   case hyr25 => (intro x hx; obtain ⟨d0, d1⟩ := HLE.out x hx; go_simp; try with_reducible rfl)
   try simp only [Act.put, qA, qB, qC]
   refine wpR_val ⟨Later.refl, Later.trans⟩ (i := 3) (v := ?vr26) rfl (by kernel_rfl) (by kernel_rfl) (by kernel_rfl) (fun _ _ _ h => h) (by rfl) ?hyr26 ?restr26
   case hyr26 => (intro x hx; obtain ⟨d0, d1⟩ := HLE.out x hx; go_simp; try with_reducible rfl)
   try simp only [Act.put, qA, qB, qC]
   refine wpR_val ⟨Later.refl, Later.trans⟩ (i := 4) (v := ?vr27) rfl (by kernel_rfl) (by kernel_rfl) (by kernel_rfl) (fun _ _ _ h => h) (by rfl) ?hyr27 ?restr27
   case hyr27 => (intro x hx; obtain ⟨d0, d1⟩ := HLE.out x hx; go_simp; try with_reducible rfl)
   try simp only [Act.put, qA, qB, qC]
   refine wpR_val ⟨Later.refl, Later.trans⟩ (i := 5) (v := .bool false) rfl (by kernel_rfl) (by kernel_rfl) (by kernel_rfl) (fun _ _ _ h => h) (by rfl) ?hyr28 ?restr28
   case hyr28 => (intro x hx; obtain ⟨d0, d1⟩ := HLE.out x hx; go_simp; try with_reducible rfl)
   try simp only [Act.put, qA, qB, qC]
   refine wpR_val ⟨Later.refl, Later.trans⟩ (i := 6) (v := .bool false) rfl (by kernel_rfl) (by kernel_rfl) (by kernel_rfl) (fun _ _ _ h => h) (by rfl) ?hyr29 ?restr29
   case hyr29 => (intro x hx; obtain ⟨d0, d1⟩ := HLE.out x hx; go_simp; try with_reducible rfl)
   try simp only [Act.put, qA, qB, qC]
   refine wpR_val ⟨Later.refl, Later.trans⟩ (i := 7) (v := ?vr30) rfl (by kernel_rfl) (by kernel_rfl) (by kernel_rfl) (fun _ _ _ h => h) (by rfl) ?hyr30 ?restr30
   case hyr30 => (intro x hx; obtain ⟨d0, d1⟩ := HLE.out x hx; go_simp; try with_reducible rfl)
   try simp only [Act.put, qA, qB, qC]
   refine wpR_val ⟨Later.refl, Later.trans⟩ (i := 8) (v := .bool false)  rfl (by kernel_rfl) (by kernel_rfl) (by kernel_rfl) (fun _ _ _ h => h) (by rfl) ?hyr31 ?restr31
   case hyr31 => (intro x hx; obtain ⟨d0, d1⟩ := HLE.out x hx; go_simp; (try with_reducible rfl); all_goals omega)
   try simp only [Act.put, qA, qB, qC]
   refine wpR_val ⟨Later.refl, Later.trans⟩ (i := 9) (v := .bool false) rfl (by kernel_rfl) (by kernel_rfl) (by kernel_rfl) (fun _ _ _ h => h) (by rfl) ?hyr32 ?restr32
   case hyr32 => (intro x hx; obtain ⟨d0, d1⟩ := HLE.out x hx; go_simp; try with_reducible rfl)
   try simp only [Act.put, qA, qB, qC]
   refine wpR_skip ⟨Later.refl, Later.trans⟩ (i := 10) rfl (by kernel_rfl) (by kernel_rfl) (by kernel_rfl) (fun _ _ _ h => h) (by rfl) ?_
   try simp only [Act.put, qA, qB, qC]
   refine wpR_skip ⟨Later.refl, Later.trans⟩ (i := 11) rfl (by kernel_rfl) (by kernel_rfl) (by kernel_rfl) (fun _ _ _ h => h) (by rfl) ?_
   try simp only [Act.put, qA, qB, qC]
   refine wpR_skip ⟨Later.refl, Later.trans⟩ (i := 12) rfl (by kernel_rfl) (by kernel_rfl) (by kernel_rfl) (fun _ _ _ h => h) (by rfl) ?_
   try simp only [Act.put, qA, qB, qC]
   refine wpR_skip ⟨Later.refl, Later.trans⟩ (i := 13) rfl (by kernel_rfl) (by kernel_rfl) (by kernel_rfl) (fun _ _ _ h => h) (by rfl) ?_
   try simp only [Act.put, qA, qB, qC]
   refine wpR_skip ⟨Later.refl, Later.trans⟩ (i := 14) rfl (by kernel_rfl) (by kernel_rfl) (by kernel_rfl) (fun _ _ _ h => h) (by rfl) ?_
   try simp only [Act.put, qA, qB, qC]
   refine wpR_skip ⟨Later.refl, Later.trans⟩ (i := 15) rfl (by kernel_rfl) (by kernel_rfl) (by kernel_rfl) (fun _ _ _ h => h) (by rfl) ?_
   try simp only [Act.put, qA, qB, qC]
   refine wpR_skip ⟨Later.refl, Later.trans⟩ (i := 16) rfl (by kernel_rfl) (by kernel_rfl) (by kernel_rfl) (fun _ _ _ h => h) (by rfl) ?_
   try simp only [Act.put, qA, qB, qC]
   refine wpR_skip ⟨Later.refl, Later.trans⟩ (i := 17) rfl (by kernel_rfl) (by kernel_rfl) (by kernel_rfl) (fun _ _ _ h => h) (by rfl) ?_
   try simp only [Act.put, qA, qB, qC]
   refine wpR_skip ⟨Later.refl, Later.trans⟩ (i := 18) rfl (by kernel_rfl) (by kernel_rfl) (by kernel_rfl) (fun _ _ _ h => h) (by rfl) ?_
   try simp only [Act.put, qA, qB, qC]
   refine wpR_skip ⟨Later.refl, Later.trans⟩ (i := 19) rfl (by kernel_rfl) (by kernel_rfl) (by kernel_rfl) (fun _ _ _ h => h) (by rfl) ?_
   try simp only [Act.put, qA, qB, qC]
   refine wpR_val ⟨Later.refl, Later.trans⟩ (i := 20) (v := .bool false) rfl (by kernel_rfl) (by kernel_rfl) (by kernel_rfl) (fun _ _ _ h => h) (by rfl) ?hyr33 ?restr33
   case hyr33 => (intro x hx; obtain ⟨d0, d1⟩ := HLE.out x hx; go_simp; try with_reducible rfl)
   try simp only [Act.put, qA, qB, qC]
   refine wpR_val ⟨Later.refl, Later.trans⟩ (i := 21) (v := .bool false) rfl (by kernel_rfl) (by kernel_rfl) (by kernel_rfl) (fun _ _ _ h => h) (by rfl) ?hyr34 ?restr34
   case hyr34 => (intro x hx; obtain ⟨d0, d1⟩ := HLE.out x hx; go_simp; try with_reducible rfl)
   try simp only [Act.put, qA, qB, qC]
   refine wpR_done (by kernel_rfl) ?_ _
   intro x9 hy9
   have T9 := Shut.mk (HTX.out x9 hy9)
   have B9 := Shut.mk (show Below w9.heap.size w9 x9 from Below.trans HB9.out (Below.mono (Below.trans (Below.drew (Below.refl _ _)) hy9) HB9.out.size))
   clear hy9 HTX HLE HT
   go_wp2_with fail
   go_roundw
   case rel => exact ⟨j + 1, by go_num, by omega, T9, B9⟩
   case measure => simp [intOf]; omega
end Go.Proofs.YtakhagkhngmpaaaGreat
