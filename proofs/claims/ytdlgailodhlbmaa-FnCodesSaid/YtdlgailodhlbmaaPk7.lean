/- Texts of ours, laid one behind the other: LawCds, OpenM, OpenS, OpenB, FieldP, ByA, PrC, PrD, PrE, PrB, PrF. -/
import Derived.Test.YtdlgailodhlbmaaPk6
import Derived.Deep.AppendLies
import Derived.Handy
import Derived.Deep.Slices
import Derived.Deep.Strs
import Derived.ChangeArms
import Derived.ChangeSame
import Derived.WideShapes
import Derived.OpenShut
import Derived.Deep.CutRange
/- LawCds: The walk of the law over codes, over what is told of the program's own functions. -/
namespace Go.Proofs.Ytdlgailodhlbmaa
open Go.RowKit
open W (B8 Mx)
attribute [local go_sem ↓] Go.wp_at_zero Go.wp_at_succ

structure TxAll : Prop where
  sch : ∀ (s : Int) (w : World), Calls Try.prog 12 #[.int .i64 s] w fun e w' => SchB s w e w'
  enc : ∀ (w : World) (u : Value) (L : List ByteArray) (lo hi : Nat) (s : Int), SSee w u L lo hi → TFit L → Calls Try.prog 13 #[.int .i64 s, u] w fun e w' => TPost (encX s L) w e w'
  dec : ∀ (w : World) (u v : Value) (L : List ByteArray) (H : List Bool) (lo hi lo' hi' : Nat) (s : Int), SSee w u L lo hi → BSee w v H lo' hi' → TFit L → H.length ≤ 1048576 → Calls Try.prog 17 #[.int .i64 s, u, v] w fun e w' => TPost (decX s L H) w e w'
  reb : ∀ (w : World) (u v : Value) (L : List ByteArray) (H : List Bool) (lo hi lo' hi' : Nat) (s : Int), SSee w u L lo hi → BSee w v H lo' hi' → TFit L → H.length ≤ 1048576 → Calls Try.prog 18 #[.int .i64 s, u, v] w fun e w' => TPost (rebX s L H) w e w'
theorem sameTx {w : World} {v u : Value} {L : List ByteArray} {lo hi lo' hi' : Nat} (h : SAns w v L lo hi) (k : SAns w u L lo' hi') (hf : L.length ≤ 1000000) : Calls Try.prog 15 #[v, u] w fun e w' => e = .returned (.bool true) ∧ Below w.heap.size w w' := by
  obtain ⟨a, cap, rfl, h1⟩ := h.srow
  obtain ⟨b, cap', rfl, h2⟩ := k.srow
  refine (sameTexts_any a b L L cap cap' w h1 h2 (by omega) (by omega)).mono ?_
  rintro e w' ⟨rfl, q, rfl⟩
  exact ⟨by unfold eqS; simp, ⟨rfl, rfl, rfl, Nat.le_refl _, fun _ _ => rfl⟩⟩
theorem SAns.part {w : World} {a : Option Addr} {cap k : Nat} {L : List ByteArray} {lo hi : Nat} (h : SAns w (.slice a L.length cap) L lo hi) (hk : k ≤ L.length) : SAns w (.slice a k cap) (L.take k) lo hi := by
  obtain ⟨a', cap', e, hc, q⟩ := h
  simp only [Value.slice.injEq] at e
  obtain ⟨rfl, _, rfl⟩ := e
  refine ⟨a, cap, by rw [List.length_take]; congr 1; omega, by rw [List.length_take]; omega, ?_⟩
  rcases q with rfl | ⟨g, rfl, q1, q2, q3⟩
  · exact .inl (by simp)
  · refine .inr ⟨g, rfl, q1, q2, q3.1, fun i v hv => q3.2 i v ?_⟩
    unfold tv at *
    rw [List.map_take, List.getElem?_take] at hv
    split at hv
    · exact hv
    · cases hv
/-- Flags of which the first i are true. -/
def trueTo (n i : Nat) : List Bool := (List.range n).map fun j => decide (j < i)
theorem trueTo_len (n i : Nat) : (trueTo n i).length = n := by simp [trueTo]
theorem trueTo_0 (n : Nat) : trueTo n 0 = List.replicate n false := by
  apply List.ext_getElem (by simp [trueTo])
  intro i h1 h2
  simp [trueTo]
theorem trueTo_set {n i : Nat} : (trueTo n i).set i true = trueTo n (i + 1) := by
  apply List.ext_getElem (by simp [trueTo])
  intro j h1 h2
  rw [List.getElem_set]
  simp only [trueTo, List.getElem_map, List.getElem_range]
  by_cases e : i = j
  · subst e; rw [if_pos rfl]; simp
  · rw [if_neg e]
    by_cases h : j < i
    · rw [decide_eq_true h, decide_eq_true (by omega)]
    · rw [decide_eq_false h, decide_eq_false (by omega)]
theorem trueTo_all (n : Nat) : trueTo n n = falseAt n [] := by
  unfold trueTo falseAt
  apply List.map_congr_left
  intro j hj
  have := List.mem_range.1 hj
  simp [this]
theorem AsWas.start (A : List ByteArray) (n : Nat) (h : A.length = n) : AsWas A A n [] := ⟨h, fun _ _ _ => rfl⟩
theorem asWas_fit {A M : List ByteArray} {n : Nat} {J : List Nat} (h : AsWas A M n J) (hn : n ≤ 6) (hz : ∀ x ∈ M, x.size ≤ 1000) : TFit M := by
  have h1 := tsum_all hz
  unfold TFit
  rw [h.1] at *
  omega
attribute [local irreducible] W.gm W.xs W.mm W.gi mx invX oneX matOk xsum appX tsum codeX encX decX rebX schK schM schOk allL falseAt trueTo
set_option maxRecDepth 1000000 in
set_option maxHeartbeats 8000000 in
theorem codes_walk (h : TxAll) (a : Option Addr) (len cap : Nat) (w : World) (hcode : CodeAt w w.heap.size a len) :
    Calls Try.prog 3 #[.slice a len cap] w fun e w' => e = .returned (.bool true) ∧ Below w.heap.size w w' := by
  have hbig : decide ((1048576 : Int) < (len : Int)) = false := by have := hcode.1; simp; omega
  obtain ⟨i0, hi0, hz0, hz1, hz2⟩ := info_parts infoTextG
  obtain ⟨i1, hi1, hy0, hy1, hy2⟩ := info_parts infoBoolG
  have HC : Hid (CodeAt w w.heap.size a len) := hcode
  have HH := Shut.mk h
  clear hcode h
  go_enter Try.func3, Try.ntmps3
  go_wp2_with fail
  refine (big_any a len cap _).mono ?_
  rintro e w1 ⟨rfl, hw1⟩
  obtain rfl : w = w1 := hw1.symm
  clear hw1
  rw [hbig]
  go_wp2_with fail
  refine (drawUnits_sch _ a len cap HC.out).mono ?_
  rintro e w1 ⟨x, z, vu, L, rfl, hok, hz9, hun, hau, hb1⟩
  obtain ⟨c1, c2, c3, c4⟩ := sch_bounds hok
  have hx3 : x ≤ 3 := by rcases sch_cases hok with e | e | e <;> omega
  have FU := Shut.mk hau
  have HB := Shut.mk hb1
  have HC1 : Hid (CodeAt w1 w1.heap.size a len) := ⟨HC.out.1, fun h => by obtain ⟨b, off, e1, e2, e3⟩ := (HC.out.below hb1 (Nat.le_refl _)).2 h; exact ⟨b, off, e1, by have := hb1.size; omega, e3⟩⟩
  have HOK := Shut.mk hok
  have HUN := Shut.mk hun
  have hLf : TFit L := by
    have h1 := tsum_all (L := L) (m := 9) (fun y hy => by rw [hun.size y hy]; exact hz9)
    have h2 := hun.len
    unfold TFit; omega
  have HLF := Shut.mk hLf
  have HSC := Shut.mk (HH.out.sch (x : Int))
  have HEN := Shut.mk (encX_un hok hun (by omega))
  have HAL := Shut.mk (allL_len hok L)
  have HAT := Shut.mk (allL_take hok hun)
  unfold SchB at HSC
  rw [hok] at HSC
  obtain ⟨k, hk⟩ : ∃ k, k = schK (x : Int) := ⟨_, rfl⟩
  obtain ⟨m, hm⟩ : ∃ m, m = schM (x : Int) := ⟨_, rfl⟩
  have HKM := Shut.mk (And.intro hk hm)
  rw [← hk] at HSC HAL HAT c1 c2
  rw [← hm] at HSC HAL c3 c4
  clear hk hm hun hau hb1 hok hLf HC
  go_wp2_with fail
  refine (HSC.out _).mono ?_
  rintro e w2 ⟨rfl, hb2⟩
  replace FU := Shut.mk (FU.out.below hb2)
  replace HB := Shut.mk (HB.out.trans (hb2.mono HB.out.size))
  have HC2 : Hid (CodeAt w2 w2.heap.size a len) := ⟨HC1.out.1, fun h => by obtain ⟨b, off, e1, e2, e3⟩ := (HC1.out.below hb2 (Nat.le_refl _)).2 h; exact ⟨b, off, e1, by have := hb2.size; omega, e3⟩⟩
  clear hb2 HC1 HSC
  have HE1 := Shut.mk (HH.out.enc w2 vu L _ _ (x : Int) FU.out.see HLF.out)
  have HE2 := Shut.mk (fun (w : World) (lo hi : Nat) (hs : SSee w vu L lo hi) => specEncode (x : Int) hs HLF.out)
  rw [HEN.out] at HE1 HE2
  go_wp2_with fail
  refine HE1.out.mono ?_
  rintro e w3 ⟨va, rfl, ha3, hb3⟩
  have FA := Shut.mk (show SAns w3 va (allL (x : Int) L) _ _ from ha3)
  replace FU := Shut.mk (FU.out.below hb3)
  replace HB := Shut.mk (HB.out.trans (hb3.mono HB.out.size))
  have HC3 : Hid (CodeAt w3 w3.heap.size a len) := ⟨HC2.out.1, fun h => by obtain ⟨b, off, e1, e2, e3⟩ := (HC2.out.below hb3 (Nat.le_refl _)).2 h; exact ⟨b, off, e1, by have := hb3.size; omega, e3⟩⟩
  clear ha3 hb3 HE1 HC2
  go_wp2_with fail
  refine (HE2.out _ _ _ FU.out.see).mono ?_
  rintro e w4 ⟨vw, rfl, ha4, hb4⟩
  have FW := Shut.mk (show SAns w4 vw (allL (x : Int) L) _ _ from ha4)
  replace FU := Shut.mk (FU.out.below hb4)
  replace FA := Shut.mk (FA.out.below hb4)
  replace HB := Shut.mk (HB.out.trans (hb4.mono HB.out.size))
  have HC4 : Hid (CodeAt w4 w4.heap.size a len) := ⟨HC3.out.1, fun h => by obtain ⟨b, off, e1, e2, e3⟩ := (HC3.out.below hb4 (Nat.le_refl _)).2 h; exact ⟨b, off, e1, by have := hb4.size; omega, e3⟩⟩
  clear ha4 hb4 HE2 HC3
  obtain ⟨n, hn⟩ : ∃ n, n = k + m := ⟨_, rfl⟩
  have HN := Shut.mk hn
  have hni : (k : Int) + (m : Int) = (n : Int) := by omega
  have hn6 : n ≤ 6 := by omega
  have hn3 : 3 ≤ n := by omega
  have hkn : k ≤ n := by omega
  rw [← hn] at HAL
  obtain ⟨aa, ca, rfl, hca, qa⟩ := FA.out
  obtain ⟨ga, rfl, g1, g2, hwa⟩ : ∃ g, aa = some ⟨g, 0, none⟩ ∧ w2.heap.size ≤ g ∧ g < w3.heap.size ∧ WCells w4 g (tv (allL (x : Int) L)) := by
    rcases qa with q | q
    · have := HAL.out; rw [q] at this; simp at this; omega
    · exact q
  have hnn : ((n : Int) != (n : Int)) = false := by simp
  have FA2 := FA
  rw [HAL.out] at FA2 hca ⊢
  have FK : Shut (SAns w4 (.slice (some ⟨ga, 0, none⟩) k ca) L w2.heap.size w3.heap.size) := ⟨by
    have q := FA2.out
    rw [← HAL.out] at q
    have q2 := q.part (k := k) (by rw [HAL.out]; exact hkn)
    rw [HAT.out] at q2
    exact q2⟩
  have hkc : (k : Int) ≤ (ca : Int) := by omega
  have k0 : (0 : Int) ≤ (k : Int) := by omega
  have HLL := Shut.mk HUN.out.len
  have hLl : L.length ≤ 1000000 := by have := HUN.out.len; have := HKM.out.1; omega
  have hAl : (allL (x : Int) L).length ≤ 1000000 := by rw [HAL.out]; omega
  have HWA := Shut.mk hwa
  have lga : ga < w4.heap.size := hwa.1
  clear qa hwa hn
  go_wp2_with fail
  refine (sameTx FA2.out FW.out hAl).mono ?_
  rintro e w5 ⟨rfl, hb5⟩
  replace FU := Shut.mk (FU.out.below hb5)
  replace FA2 := Shut.mk (FA2.out.below hb5)
  replace FK := Shut.mk (FK.out.below hb5)
  replace HB := Shut.mk (HB.out.trans (hb5.mono HB.out.size))
  replace HWA := Shut.mk (HWA.out.below hb5 lga)
  have HC5 : Hid (CodeAt w5 w5.heap.size a len) := ⟨HC4.out.1, fun h => by obtain ⟨b, off, e1, e2, e3⟩ := (HC4.out.below hb5 (Nat.le_refl _)).2 h; exact ⟨b, off, e1, by have := hb5.size; omega, e3⟩⟩
  clear hb5 HC4 FA FW lga
  go_wp2_with fail
  refine (sameTx FK.out FU.out hLl).mono ?_
  rintro e w6 ⟨rfl, hb6⟩
  replace FU := Shut.mk (FU.out.below hb6)
  replace FA2 := Shut.mk (FA2.out.below hb6)
  replace HB := Shut.mk (HB.out.trans (hb6.mono HB.out.size))
  have lga5 := HWA.out.1
  replace HWA := Shut.mk (HWA.out.below hb6 lga5)
  have HC6 : Hid (CodeAt w6 w6.heap.size a len) := ⟨HC5.out.1, fun h => by obtain ⟨b, off, e1, e2, e3⟩ := (HC5.out.below hb6 (Nat.le_refl _)).2 h; exact ⟨b, off, e1, by have := hb6.size; omega, e3⟩⟩
  clear hb6 HC5 FK lga5
  go_wp2_with fail
  refine (drawPlaces_any _ a len cap HC6.out).mono ?_
  rintro e w7 ⟨gp, pcap, l, rfl, hgp, hgp2, hll, hlx, hcell, hb7⟩
  replace FU := Shut.mk (FU.out.below hb7)
  replace FA2 := Shut.mk (FA2.out.below hb7)
  replace HB := Shut.mk (HB.out.trans (hb7.mono HB.out.size))
  have lga6 := HWA.out.1
  replace HWA := Shut.mk (HWA.out.below hb7 lga6)
  have HL := Shut.mk (And.intro hll (And.intro hlx hcell))
  clear hb7 HC6 hll hlx hcell lga6
  go_wp2_with (at_make; refine wpList_make_full _ rfl _ _ 34 rfl w7.heap.size 4 i1 _ 1 Try.underlying34 hi1 hy0 hy1 .i64 .i64 _ _ n rfl rfl (by omega) (by omega) ?b2 ?b3 ?b4 ?_)
  case b2 => rw [hy2]; omega
  case b3 => unfold maxLen; omega
  case b4 => omega
  intro wm hownm hgrm
  have hbm : Below w7.heap.size w7 wm := (Below.refl _ _).grown hgrm (Nat.le_refl _) (fun j hj => by simp at hj)
  have hrow : WCells wm w7.heap.size (bcs (trueTo n 0)) := by
    have h := own_wcells hownm
    have e : (madeCells #[Value.bool false] n).toList = bcs (trueTo n 0) := by rw [toList_madeCells_one, trueTo_0]; simp [bcs]
    rw [e] at h
    exact h
  have HROW := Shut.mk hrow
  have HBM := Shut.mk hbm
  clear hownm hgrm hrow hbm
  go_wp2_with fail
  go_loopw [14] (fun ii wr => ∃ i : Nat, ii = .int .i64 (i : Nat) ∧ i ≤ n ∧ Shut (WCells wr w7.heap.size (bcs (trueTo n i))) ∧ Shut (Below w7.heap.size w7 wr)) (fun ii _ => n - (intOf ii).toNat)
  case atStart => exact ⟨0, rfl, Nat.zero_le _, HROW, HBM⟩
  case round =>
    clear HROW HBM
    obtain ⟨i, rfl, hin, hrow, hbo⟩ := hrel
    obtain ⟨wo, rfl⟩ : ∃ wo, wo = wr := ⟨_, rfl⟩
    by_cases hlt : i < n
    · have hlt' : (i : Int) < (n : Int) := by omega
      have i0' : (0 : Int) ≤ (i : Int) := by omega
      obtain ⟨c0, z0⟩ := hrow.out.2 i _ (bcs_get _ i (by rw [trueTo_len]; exact hlt))
      have hset := hrow.out.set i (.bool true) (by rw [bcs_len, trueTo_len]; exact hlt)
      rw [bcs_set, trueTo_set] at hset
      have HS := Shut.mk hset
      have HBS := Shut.mk (hbo.out.setCell (p := ⟨w7.heap.size, i, none⟩) (Nat.le_refl _) (.bool true))
      clear hset hrow hbo
      go_wp2_with fail
      go_roundw
      case rel => exact ⟨i + 1, by go_num, by omega, HS, HBS⟩
      case measure => simp [intOf]; omega
    · have e : i = n := by omega
      subst e
      rw [trueTo_all] at hrow
      have hlt' : ¬ (i : Int) < (i : Int) := by omega
      have hgh := hrow.out.1
      have hal : Below wo.heap.size wo (wo.alloc (.cells #[] 9)) := (Below.refl _ _).alloc (Nat.le_refl _) _
      have HO : Shut ((wo.alloc (.cells #[] 9)).ownsRow wo.heap.size 9 1 (.slice (some ⟨wo.heap.size, 0, none⟩) 0 0) 0 (tv [])) := ⟨World.ownsRow_made wo #[] 0 (Nat.le_refl _) (by decide) rfl⟩
      have hown := HO.out
      have hwa := (HWA.out.below hbo.out HWA.out.1).below hal (Nat.lt_of_lt_of_le HWA.out.1 hbo.out.size)
      have HNW : Shut (∀ j u, (tv (allL (x : Int) L))[j]? = some u → (wo.alloc (.cells #[] 9)).cell? ((⟨ga, 0, none⟩ : Addr).add j) = some u) := ⟨fun j u hj => by
        have e : (⟨ga, 0, none⟩ : Addr).add j = ⟨ga, j, none⟩ := by cases j <;> simp [Addr.add]
        rw [e]; exact (hwa.2 j u hj).1⟩
      have HSZ := Shut.mk hbo.out.size
      clear hwa hal
      go_wp2_with (at_builtin; refine wpList_append_lies _ rfl _ _ 24 rfl wo.heap.size 9 i0 (.string ⟨#[]⟩) 1 16 Try.underlying24 hi0 hz0 hz1 hz2 rfl (by decide) _ 0 _ rfl hown ⟨ga, 0, none⟩ i ca (tv (allL (x : Int) L)) rfl ?c1 HNW.out ?c2 ?c6 ?c3 ?c4 (by simp) (wo.heap.size + 1) (by simp) ?_)
      case c1 => first | (rw [tv_len, Nat.mul_one]; exact HAL.out) | (rw [tv_len]; exact HAL.out)
      case c2 => intro u hu; obtain ⟨y, _, rfl⟩ := List.mem_map.1 hu; rfl
      case c6 => omega
      case c3 => unfold maxLen; omega
      case c4 => omega
      intro gl capl w8 hown8 hgrow8 hat8 hlt8
      have hglo : wo.heap.size ≤ gl := (hown8.lt gl (by simp [Value.ownBlock])).1
      have hb8 : Below wo.heap.size wo w8 := ((Below.refl wo.heap.size wo).alloc (Nat.le_refl _) _).grown hgrow8 (by simp) (fun q hq => by simp [Value.ownBlock] at hq; omega)
      have hb78 : Below w7.heap.size w7 w8 := hbo.out.trans (hb8.mono HSZ.out)
      have Hhave : Shut (WCells w8 w7.heap.size (bcs (falseAt i []))) := ⟨hrow.out.below hb8 hgh⟩
      have Hlost : Shut (WCells w8 gl (tv (allL (x : Int) L))) := ⟨by
        have q := hown8
        simp only [tv, List.map_nil, List.nil_append] at q
        exact own_wcells q⟩
      have HB8 := Shut.mk hb78
      have hglw : w7.heap.size < gl := by omega
      clear hown8 hgrow8 hat8 hlt8 hb8 hb78 hbo hrow HO hown HNW hgh HSZ hglo
      go_wp2_with fail
      go_loopw [16] (fun ii wr => ∃ (j : Nat) (J : List Nat) (M : List ByteArray), ii = .int .i64 (j : Nat) ∧ j ≤ m ∧ Shut (J.length = j ∧ (∀ t ∈ J, t < i) ∧ AsWas (allL (x : Int) L) M i J ∧ ∀ y ∈ M, y.size ≤ 1000) ∧ Shut (WCells wr w7.heap.size (bcs (falseAt i J))) ∧ Shut (WCells wr gl (tv M)) ∧ Shut (Below w7.heap.size w7 wr)) (fun ii _ => m - (intOf ii).toNat)
      case atStart => exact ⟨0, [], allL (x : Int) L, rfl, Nat.zero_le _, ⟨rfl, by simp, AsWas.start _ _ HAL.out, fun y hy => by
        obtain ⟨t, ht, rfl⟩ := List.mem_iff_getElem.1 hy
        have h1 := allL_size HOK.out HUN.out (i := t) (by rw [← HKM.out.1, ← HKM.out.2, ← HN.out, ← HAL.out]; exact ht)
        have e : (allL (x : Int) L).getD t ⟨#[]⟩ = (allL (x : Int) L)[t] := by simp [List.getD, ht]
        rw [e] at h1
        omega⟩, Hhave, Hlost, HB8⟩
      case round =>
        clear Hhave Hlost HB8
        obtain ⟨j, J, M, rfl, hjm, hJ, hH, hM, hB⟩ := hrel
        obtain ⟨wv, rfl⟩ : ∃ wv, wv = wr := ⟨_, rfl⟩
        by_cases hjl : j < m
        · have hjl' : (j : Int) < (m : Int) := by omega
          have j0 : (0 : Int) ≤ (j : Int) := by omega
          have j12 : (j : Int) < 12 := by omega
          have y0 := (hB.out.cell (p := ⟨gp, j, none⟩) hgp2).trans (HL.out.2.2 j (by omega))
          have q0 := HL.out.2.1 (l.getD j 0) (by simp [List.getD, show j < l.length by rw [HL.out.1]; omega])
          generalize l.getD j 0 = p at *
          obtain ⟨pn, rfl⟩ := Int.eq_ofNat_of_zero_le q0.1
          have hi0 : (0 : Int) < (i : Int) := by omega
          obtain ⟨t, ht⟩ : ∃ t, t = pn % i := ⟨_, rfl⟩
          have hti : t < i := by rw [ht]; exact Nat.mod_lt _ (by omega)
          have hmod : (pn : Int) % (i : Int) = (t : Int) := by rw [ht]; push_cast; rfl
          have htmod : (pn : Int).tmod (i : Int) = (t : Int) := by rw [Int.tmod_eq_emod_of_nonneg (by omega)]; exact hmod
          have t0 : (0 : Int) ≤ (t : Int) := by omega
          have t1 : (t : Int) < (i : Int) := by omega
          have hine : ((i : Int) == 0) = false := by rw [beq_eq_false_iff_ne]; omega
          obtain ⟨c0, z0⟩ := hH.out.2 t _ (bcs_get _ t (by rw [falseAt_len]; exact hti))
          have hset := hH.out.set t (.bool false) (by rw [bcs_len, falseAt_len]; exact hti)
          rw [bcs_set, falseAt_set] at hset
          have hMl : M.length = i := hJ.out.2.2.1.1
          obtain ⟨c1', z1'⟩ := hM.out.2 t _ (tv_get M t (by omega))
          have hm2 := hM.out.other ⟨w7.heap.size, t, none⟩ (.bool false) (by simp; omega)
          obtain ⟨d1, d2⟩ := hm2.2 t _ (tv_get M t (by omega))
          have hmset := hm2.set t (.string ⟨#[103, 111, 110, 101]⟩) (by rw [tv_len]; omega)
          rw [tv_set] at hmset
          have HS1 := Shut.mk (hset.other ⟨gl, t, none⟩ (.string ⟨#[103, 111, 110, 101]⟩) (by simp; omega))
          have HS2 := Shut.mk hmset
          have HB9 := Shut.mk ((hB.out.setCell (p := ⟨w7.heap.size, t, none⟩) (Nat.le_refl _) (.bool false)).setCell (p := ⟨gl, t, none⟩) (by simp; omega) (.string ⟨#[103, 111, 110, 101]⟩))
          have y1 : (wv.setCell ⟨w7.heap.size, t, none⟩ (.bool false)).cell? ⟨gp, j, none⟩ = some (.int .i64 (pn : Int)) := by rw [World.cell?_setCell_other _ _ _ _ (by first | (simp; done) | (simp; omega))]; exact y0
          have HJ9 : Shut ((J ++ [t]).length = j + 1 ∧ (∀ u ∈ J ++ [t], u < i) ∧ AsWas (allL (x : Int) L) (M.set t ⟨#[103, 111, 110, 101]⟩) i (J ++ [t]) ∧ ∀ y ∈ M.set t ⟨#[103, 111, 110, 101]⟩, y.size ≤ 1000) := ⟨by simp [hJ.out.1], fun u hu => by rcases List.mem_append.1 hu with q | q; exact hJ.out.2.1 u q; simp at q; omega, hJ.out.2.2.1.set t _, fun y hy => by
            rcases List.mem_or_eq_of_mem_set hy with q | q
            · exact hJ.out.2.2.2 y q
            · rw [q]; decide⟩
          clear hset hmset hm2 hH hM hB hJ ht hMl
          go_wp2_with fail
          exact ⟨⟨j + 1, J ++ [t], _, by go_num, by omega, HJ9, HS1, HS2, HB9⟩, by simp [intOf]; omega⟩
        · have e : j = m := by omega
          subst e
          have hjl' : ¬ (j : Int) < (j : Int) := by omega
          have hMl : M.length = i := hJ.out.2.2.1.1
          have hfit := asWas_fit hJ.out.2.2.1 hn6 hJ.out.2.2.2
          have hHl : (falseAt i J).length ≤ 1048576 := by rw [falseAt_len]; omega
          have hiN : i = schK (x : Int) + schM (x : Int) := by rw [← HKM.out.1, ← HKM.out.2]; exact HN.out
          have hmM : j = schM (x : Int) := HKM.out.2
          have HDB := Shut.mk (show decX (x : Int) M (falseAt i J) = (L, true) by rw [hiN]; exact decX_back HOK.out HUN.out (by rw [← hiN]; exact hJ.out.2.2.1) (by rw [← hmM]; exact hJ.out.1) (fun t ht => by rw [← hiN]; exact hJ.out.2.1 t ht))
          have HRB := Shut.mk (show rebX (x : Int) M (falseAt i J) = (allL (x : Int) L, true) by rw [hiN]; exact rebX_back HOK.out HUN.out (by omega) (by rw [← hiN]; exact hJ.out.2.2.1) (by rw [← hmM]; exact hJ.out.1) (fun t ht => by rw [← hiN]; exact hJ.out.2.1 t ht))
          have HDF := Shut.mk (fun q => show decX (x : Int) M (falseAt i (J ++ (List.range (j + 1)).map fun t => (q + t) % i)) = ([], false) by rw [hiN, hmM]; exact decX_few HOK.out J q)
          have SL : Shut (SSee wv (.slice (some ⟨gl, 0, none⟩) i capl) M 0 wv.heap.size) := ⟨⟨_, _, by rw [hMl], RRow.of_wcells hM.out (Nat.zero_le _) hM.out.1⟩⟩
          have SH : Shut (BSee wv (.slice (some ⟨w7.heap.size, 0, none⟩) i i) (falseAt i J) 0 wv.heap.size) := ⟨⟨_, _, by rw [falseAt_len], RRow.of_wcells hH.out (Nat.zero_le _) hH.out.1⟩⟩
          have HD1 := Shut.mk (HH.out.dec wv _ _ M (falseAt i J) _ _ _ _ (x : Int) SL.out SH.out hfit hHl)
          rw [HDB.out] at HD1
          have HFT := Shut.mk (And.intro hfit hMl)
          have hB' := hB
          have FUv := Shut.mk (FU.out.below hB.out)
          have FAv := Shut.mk (FA2.out.below hB.out)
          clear hfit hMl hJ hiN hmM
          go_wp2_with fail
          refine HD1.out.mono ?_
          rintro e w9 ⟨v9, rfl, ha9, hb9⟩
          have F9 := Shut.mk (show SAns w9 v9 L _ _ from ha9)
          have HR1 := Shut.mk (HH.out.reb w9 _ _ M (falseAt i J) _ _ _ _ (x : Int) (SL.out.below hb9) (SH.out.below hb9) HFT.out.1 hHl)
          rw [HRB.out] at HR1
          replace FUv := Shut.mk (FUv.out.below hb9)
          replace FAv := Shut.mk (FAv.out.below hb9)
          have hM9 := Shut.mk (hM.out.below hb9 hM.out.1)
          have hH9 := Shut.mk (hH.out.below hb9 hH.out.1)
          have HB9 := Shut.mk (hB.out.trans (hb9.mono hB.out.size))
          clear ha9 hb9 HD1 hM hH hB hB' SL SH
          go_wp2_with fail
          refine HR1.out.mono ?_
          rintro e w10 ⟨v10, rfl, ha10, hb10⟩
          have F10 := Shut.mk (show SAns w10 v10 (allL (x : Int) L) _ _ from ha10)
          replace F9 := Shut.mk (F9.out.below hb10)
          replace FUv := Shut.mk (FUv.out.below hb10)
          replace FAv := Shut.mk (FAv.out.below hb10)
          have hM10 := Shut.mk (hM9.out.below hb10 hM9.out.1)
          have hH10 := Shut.mk (hH9.out.below hb10 hH9.out.1)
          have HB10 := Shut.mk (HB9.out.trans (hb10.mono HB9.out.size))
          clear ha10 hb10 HR1 hM9 hH9 HB9
          go_wp2_with fail
          refine (sameTx F9.out FUv.out hLl).mono ?_
          rintro e w11 ⟨rfl, hb11⟩
          replace F10 := Shut.mk (F10.out.below hb11)
          replace FAv := Shut.mk (FAv.out.below hb11)
          have hM11 := Shut.mk (hM10.out.below hb11 hM10.out.1)
          have hH11 := Shut.mk (hH10.out.below hb11 hH10.out.1)
          have HB11 := Shut.mk (HB10.out.trans (hb11.mono HB10.out.size))
          clear hb11 hM10 hH10 HB10 F9 FUv
          go_wp2_with fail
          refine (sameTx F10.out FAv.out hAl).mono ?_
          rintro e w12 ⟨rfl, hb12⟩
          have hM12 := Shut.mk (hM11.out.below hb12 hM11.out.1)
          have hH12 : Shut (WCells w12 w7.heap.size (bcs (falseAt i (J ++ (List.range 0).map fun t => ((l.getD 4 0).toNat + t) % i)))) := ⟨by simp only [List.range_zero, List.map_nil, List.append_nil]; exact hH11.out.below hb12 hH11.out.1⟩
          have HB12 := Shut.mk (HB11.out.trans (hb12.mono HB11.out.size))
          have q4 := HL.out.2.1 (l.getD 4 0) (by simp [List.getD, show 4 < l.length by rw [HL.out.1]; omega])
          have y4 : w7.cell? ⟨gp, 4, none⟩ = some (.int .i64 ((l.getD 4 0).toNat : Int)) := by rw [HL.out.2.2 4 (by omega), Int.toNat_of_nonneg q4.1]
          have hq4 : (l.getD 4 0).toNat < 10000 := by omega
          clear hb12 hM11 hH11 HB11 F10 FAv q4
          generalize (l.getD 4 0).toNat = q at *
          have Y4 := Shut.mk y4
          clear y4
          go_wp2_with fail
          go_loopw [21] (fun ii wr => ∃ c : Nat, ii = .int .i64 (c : Nat) ∧ c ≤ j + 1 ∧ Shut (WCells wr w7.heap.size (bcs (falseAt i (J ++ (List.range c).map fun t => (q + t) % i)))) ∧ Shut (WCells wr gl (tv M)) ∧ Shut (Below w7.heap.size w7 wr)) (fun ii _ => j + 1 - (intOf ii).toNat)
          case atStart => exact ⟨0, rfl, Nat.zero_le _, hH12, hM12, HB12⟩
          case round =>
            clear hH12 hM12 HB12
            obtain ⟨c, rfl, hcj, hH, hM, hB⟩ := hrel
            obtain ⟨wv, rfl⟩ : ∃ wv, wv = wr := ⟨_, rfl⟩
            by_cases hcl : c ≤ j
            · have hcl' : (c : Int) ≤ (j : Int) := by omega
              have c0' : (0 : Int) ≤ (c : Int) := by omega
              have y0 := (hB.out.cell (p := ⟨gp, 4, none⟩) hgp2).trans Y4.out
              obtain ⟨t, ht⟩ : ∃ t, t = (q + c) % i := ⟨_, rfl⟩
              have hti : t < i := by rw [ht]; exact Nat.mod_lt _ (by omega)
              have hmod : ((q : Int) + (c : Int)) % (i : Int) = (t : Int) := by rw [ht]; push_cast; rfl
              have htmod : ((q : Int) + (c : Int)).tmod (i : Int) = (t : Int) := by rw [Int.tmod_eq_emod_of_nonneg (by omega)]; exact hmod
              have t0 : (0 : Int) ≤ (t : Int) := by omega
              have t1 : (t : Int) < (i : Int) := by omega
              have hi0' : (0 : Int) < (i : Int) := by omega
              have hine : ((i : Int) == 0) = false := by rw [beq_eq_false_iff_ne]; omega
              obtain ⟨c0, z0⟩ := hH.out.2 t _ (bcs_get _ t (by rw [falseAt_len]; exact hti))
              have hset := hH.out.set t (.bool false) (by rw [bcs_len, falseAt_len]; exact hti)
              rw [bcs_set, falseAt_set] at hset
              rw [show J ++ (List.range c).map (fun t => (q + t) % i) ++ [t] = J ++ (List.range (c + 1)).map (fun t => (q + t) % i) by rw [List.range_succ, List.map_append, List.append_assoc, ht]; rfl] at hset
              have HS1 := Shut.mk hset
              have HS2 := Shut.mk (hM.out.other ⟨w7.heap.size, t, none⟩ (.bool false) (by simp; omega))
              have HB9 := Shut.mk (hB.out.setCell (p := ⟨w7.heap.size, t, none⟩) (Nat.le_refl _) (.bool false))
              clear hset hH hM hB ht
              go_wp2_with fail
              exact ⟨⟨c + 1, by go_num, by omega, HS1, HS2, HB9⟩, by simp [intOf]; omega⟩
            · have e : c = j + 1 := by omega
              subst e
              have hcl' : ¬ ((j + 1 : Nat) : Int) ≤ (j : Int) := by omega
              have SL : Shut (SSee wv (.slice (some ⟨gl, 0, none⟩) i capl) M 0 wv.heap.size) := ⟨⟨_, _, by rw [HFT.out.2], RRow.of_wcells hM.out (Nat.zero_le _) hM.out.1⟩⟩
              have SH : Shut (BSee wv (.slice (some ⟨w7.heap.size, 0, none⟩) i i) (falseAt i (J ++ (List.range (j + 1)).map fun t => (q + t) % i)) 0 wv.heap.size) := ⟨⟨_, _, by rw [falseAt_len], RRow.of_wcells hH.out (Nat.zero_le _) hH.out.1⟩⟩
              have HD2 := Shut.mk (HH.out.dec wv _ _ M (falseAt i (J ++ (List.range (j + 1)).map fun t => (q + t) % i)) _ _ _ _ (x : Int) SL.out SH.out HFT.out.1 (by rw [falseAt_len]; omega))
              rw [HDF.out q] at HD2
              have HBW := Shut.mk (HB.out.trans (hB.out.mono HB.out.size))
              clear hH hM hB SL SH
              go_wp2_with fail
              refine HD2.out.mono ?_
              rintro e w14 ⟨v14, rfl, _, hb14⟩
              have HBZ := Shut.mk (HBW.out.trans (hb14.mono HBW.out.size))
              clear hb14 HD2
              go_wp2_with fail
              go_ret
              exact ⟨rfl, HBZ.out⟩
end Go.Proofs.Ytdlgailodhlbmaa
/- OpenM: Rows of numbers, of rows of numbers, and of texts, that came in. -/
namespace Go.Proofs.Ytdlgailodhlbmaa
open Go.RowKit Go.Deep Go.ChangeShapes Go.WideShapes

theorem cells_int : Try.prog.cellsOf 3 = 1 := by kernel_rfl
theorem cells_ints : Try.prog.cellsOf 32 = 1 := by kernel_rfl
theorem cells_str : Try.prog.cellsOf 9 = 1 := by kernel_rfl
/-- A row out of its elements. -/
theorem rows_from {α : Type} [Inhabited α] {en : α → List Value} {sz : Nat} (hsz : ∀ x, (en x).length = sz) (hp0 : 0 < sz) {W : World} {ad : Addr} {len : Nat} {Pr : α → Prop}
    (each : ∀ i, i < len → ∃ f : α, (∀ r v, (en f)[r]? = some v → W.cell? (ad.add (i * sz + r)) = some v) ∧ Pr f) : ∃ xs : List α, xs.length = len ∧ CRow W (some ad) (xs.flatMap en) ∧ ∀ f ∈ xs, Pr f := by
  obtain ⟨F, hF⟩ := choose_lt each
  have hlen : ((List.range len).map F).length = len := by simp
  have hget : ∀ j (hj : j < ((List.range len).map F).length), ((List.range len).map F)[j] = F j := by intro j hj; simp
  refine ⟨(List.range len).map F, hlen, ?_, ?_⟩
  · intro hp
    rw [flat_len hsz, hlen] at hp
    have hl0 : 0 < len := Nat.pos_of_ne_zero fun e => by rw [e] at hp; simp at hp
    have h00 : ∃ v, (en (F 0))[0]? = some v := by
      have : 0 < (en (F 0)).length := by rw [hsz]; exact hp0
      exact ⟨_, List.getElem?_eq_getElem this⟩
    obtain ⟨v0, hv0⟩ := h00
    have c0 := (hF 0 hl0).1 0 v0 hv0
    have hs : ad.spot = none := by
      have := World.cell?_spot c0
      simpa [Addr.add] using this
    obtain ⟨b, off, spot⟩ := ad
    simp only at hs
    subst hs
    have hadd : ∀ i, (⟨b, off, none⟩ : Addr).add i = ⟨b, off + i, none⟩ := by intro i; cases i <;> simp [Addr.add]
    refine ⟨b, off, rfl, ?_, fun i v hv => ?_⟩
    · by_cases hb : b < W.heap.size
      · exact hb
      · unfold World.cell? at c0
        rw [hadd, Array.getElem?_eq_none (by simpa using hb)] at c0
        simp at c0
    · have hi : i < (((List.range len).map F).flatMap en).length := (List.getElem?_eq_some_iff.1 hv).1
      rw [flat_len hsz, hlen] at hi
      have hq : i / sz < len := Nat.div_lt_of_lt_mul (by rwa [Nat.mul_comm] at hi)
      have hr := Nat.mod_lt i hp0
      have ei : i = i / sz * sz + i % sz := by rw [Nat.mul_comm]; exact (Nat.div_add_mod i sz).symm
      have hj : i / sz < ((List.range len).map F).length := by rw [hlen]; exact hq
      have l1 := flat_get hsz ((List.range len).map F) (i / sz) hj (i % sz) hr
      rw [hget _ hj, ← ei] at l1
      have := (hF (i / sz) hq).1 (i % sz) v (by rw [← l1]; exact hv)
      rw [← ei, hadd] at this
      exact this
  · intro f hf
    obtain ⟨j, hj, rfl⟩ := List.mem_map.1 hf
    exact (hF j (by simpa using hj)).2
theorem ics_flats (xs : List Int) : ics xs = xs.flatMap fun x => [.int .i64 x] := by
  unfold ics
  induction xs with
  | nil => rfl
  | cons x xs ih => simp [ih]
set_option maxRecDepth 100000 in
theorem open_row {H : Type} {enc : TypeId × Value → H} {W : World} {base : Nat} {spare : Nat → Bool} {held : Bool} {fuel : Nat} {cs : List Value} {x : DataW H × List MemPlace}
    (h : DataW.trod enc Try.prog W base spare held fuel 32 cs = some x) : ∃ s : SR, cs = [srv s] ∧ CRow W s.loc (ics s.row) ∧ s.row.length ≤ 9223372036854775807 := by
  rcases open_slice Try.underlying32 h with ⟨rfl, _⟩ | ⟨ad, len, cap, m, n, D, Pl, rfl, hb, hl, hm, hmm, _, hx⟩
  · exact ⟨⟨none, [], 0⟩, rfl, fun h => by simp [ics] at h, by simp⟩
  · have hlm : len ≤ m := by rw [hmm]; split <;> omega
    have each : ∀ i, i < len → ∃ f : Int, (∀ r v, ([.int .i64 f] : List Value)[r]? = some v → W.cell? (ad.add (i * 1 + r)) = some v) ∧ True := by
      intro i hi
      obtain ⟨cs', h1, h2⟩ := hx i (by omega)
      rw [cells_int] at h1
      obtain ⟨_, hlen, hcell⟩ := World.cells?_some h1
      obtain ⟨q, e2, _, z2⟩ := DataW.trod_int Try.underlying3 h2
      have c0 := hcell 0 (by omega)
      rw [add_add] at c0
      subst e2
      refine ⟨q, fun r v hv => ?_, trivial⟩
      match r, hv with
      | 0, hv => simp at hv; subst hv; simpa using c0
    obtain ⟨xs, hxl, hrow, _⟩ := rows_from (en := fun x => [.int .i64 x]) (fun _ => rfl) (by decide) each
    rw [← ics_flats] at hrow
    exact ⟨⟨some ad, xs, cap⟩, by simp only [srv]; rw [hxl], hrow, by show xs.length ≤ _; rw [hxl]; unfold maxLen at hm; omega⟩
theorem svs_flat (ss : List SR) : svs ss = ss.flatMap fun s => [srv s] := by
  unfold svs
  induction ss with
  | nil => rfl
  | cons x xs ih => simp [ih]
set_option maxRecDepth 100000 in
theorem open_intSS {H : Type} {enc : TypeId × Value → H} {W : World} {r : Reach} {b0 base : Nat} {spare : Nat → Bool} {held : Bool} {v : Value} {d : DataW H} {p : List MemPlace}
    (hv : Value.okWide Try.prog W r b0 36 v) (h : DataW.Trod enc Try.prog W base spare held 36 v d p) : ∃ a ss cap, v = .slice a (List.length (α := SR) ss) cap ∧ MR W a ss 0 W.heap.size ∧ (ss.length ≤ 9223372036854775807 ∧ ∀ s ∈ ss, s.row.length ≤ 9223372036854775807) := by
  obtain ⟨va, vl, vc, rfl⟩ := okWide_slice Try.underlying36 hv
  obtain ⟨fuel, h⟩ := h
  rcases open_slice Try.underlying36 h with ⟨e, _⟩ | ⟨ad, len, cap, m, n, D, Pl, e, hb, hl, hm, hmm, _, hx⟩
  · simp only [Value.cells, List.cons.injEq, and_true, Value.slice.injEq] at e
    obtain ⟨rfl, rfl, rfl⟩ := e
    exact ⟨none, [], 0, rfl, MR.nil _ _ _ _, by simp, by simp⟩
  · have hlm : len ≤ m := by rw [hmm]; split <;> omega
    have each : ∀ i, i < len → ∃ s : SR, (∀ r v, ([srv s] : List Value)[r]? = some v → W.cell? (ad.add (i * 1 + r)) = some v) ∧ CRow W s.loc (ics s.row) ∧ s.row.length ≤ 9223372036854775807 := by
      intro i hi
      obtain ⟨cs', h1, h2⟩ := hx i (by omega)
      rw [cells_ints] at h1
      obtain ⟨_, hlen, hcell⟩ := World.cells?_some h1
      obtain ⟨s, e2, hc, hz⟩ := open_row h2
      have c0 := hcell 0 (by omega)
      rw [add_add] at c0
      subst e2
      refine ⟨s, fun r v hv => ?_, hc, hz⟩
      match r, hv with
      | 0, hv => simp at hv; subst hv; simpa using c0
    obtain ⟨ss, hxl, hrow, hall⟩ := rows_from (en := fun s => [srv s]) (fun _ => rfl) (by decide) each
    rw [← svs_flat] at hrow
    simp only [Value.cells, List.cons.injEq, and_true, Value.slice.injEq] at e
    obtain ⟨rfl, rfl, rfl⟩ := e
    exact ⟨some ad, ss, vc, by rw [hxl], ⟨RRow.of_crow hrow, fun s hs => RRow.of_crow (hall s hs).1⟩, by rw [hxl]; unfold maxLen at hm; omega, fun s hs => (hall s hs).2⟩
end Go.Proofs.Ytdlgailodhlbmaa
/- OpenS: Rows of texts that came in. -/
namespace Go.Proofs.Ytdlgailodhlbmaa
open Go.RowKit Go.Deep Go.ChangeShapes Go.WideShapes

theorem tv_flats (L : List ByteArray) : tv L = L.flatMap fun x => [.string x] := by
  unfold tv
  induction L with
  | nil => rfl
  | cons x xs ih => simp [ih]
set_option maxRecDepth 100000 in
theorem open_textS {H : Type} {enc : TypeId × Value → H} {W : World} {r : Reach} {b0 base : Nat} {spare : Nat → Bool} {held : Bool} {v : Value} {d : DataW H} {p : List MemPlace}
    (hv : Value.okWide Try.prog W r b0 24 v) (h : DataW.Trod enc Try.prog W base spare held 24 v d p) : ∃ a L cap, v = .slice a (List.length (α := ByteArray) L) cap ∧ RRow W a (tv L) 0 W.heap.size ∧ (L.length ≤ 9223372036854775807 ∧ ∀ x ∈ L, x.size ≤ 9223372036854775807) := by
  obtain ⟨va, vl, vc, rfl⟩ := okWide_slice Try.underlying24 hv
  obtain ⟨fuel, h⟩ := h
  rcases open_slice Try.underlying24 h with ⟨e, _⟩ | ⟨ad, len, cap, m, n, D, Pl, e, hb, hl, hm, hmm, _, hx⟩
  · simp only [Value.cells, List.cons.injEq, and_true, Value.slice.injEq] at e
    obtain ⟨rfl, rfl, rfl⟩ := e
    exact ⟨none, [], 0, rfl, fun h => by simp [tv] at h, by simp, by simp⟩
  · have hlm : len ≤ m := by rw [hmm]; split <;> omega
    have each : ∀ i, i < len → ∃ f : ByteArray, (∀ r v, ([.string f] : List Value)[r]? = some v → W.cell? (ad.add (i * 1 + r)) = some v) ∧ f.size ≤ 9223372036854775807 := by
      intro i hi
      obtain ⟨cs', h1, h2⟩ := hx i (by omega)
      rw [cells_str] at h1
      obtain ⟨_, hlen, hcell⟩ := World.cells?_some h1
      obtain ⟨q, e2, _, z2⟩ := DataW.trod_string Try.underlying9 h2
      have c0 := hcell 0 (by omega)
      rw [add_add] at c0
      subst e2
      refine ⟨q, fun r v hv => ?_, by simpa [maxLen] using z2⟩
      match r, hv with
      | 0, hv => simp at hv; subst hv; simpa using c0
    obtain ⟨xs, hxl, hrow, hall⟩ := rows_from (en := fun x => [.string x]) (fun _ => rfl) (by decide) each
    rw [← tv_flats] at hrow
    simp only [Value.cells, List.cons.injEq, and_true, Value.slice.injEq] at e
    obtain ⟨rfl, rfl, rfl⟩ := e
    exact ⟨some ad, xs, vc, by rw [hxl], RRow.of_crow hrow, by rw [hxl]; unfold maxLen at hm; omega, hall⟩
end Go.Proofs.Ytdlgailodhlbmaa
/- OpenB: Rows of flags that came in. -/
namespace Go.Proofs.Ytdlgailodhlbmaa
open Go.RowKit Go.Deep Go.ChangeShapes Go.WideShapes

theorem cells_bool : Try.prog.cellsOf 4 = 1 := by kernel_rfl
theorem bcs_flats (L : List Bool) : bcs L = L.flatMap fun x => [.bool x] := by
  unfold bcs
  induction L with
  | nil => rfl
  | cons x xs ih => simp [ih]
set_option maxRecDepth 100000 in
theorem open_boolS {H : Type} {enc : TypeId × Value → H} {W : World} {r : Reach} {b0 base : Nat} {spare : Nat → Bool} {held : Bool} {v : Value} {d : DataW H} {p : List MemPlace}
    (hv : Value.okWide Try.prog W r b0 34 v) (h : DataW.Trod enc Try.prog W base spare held 34 v d p) : ∃ a L cap, v = .slice a (List.length (α := Bool) L) cap ∧ RRow W a (bcs L) 0 W.heap.size ∧ L.length ≤ 9223372036854775807 := by
  obtain ⟨va, vl, vc, rfl⟩ := okWide_slice Try.underlying34 hv
  obtain ⟨fuel, h⟩ := h
  rcases open_slice Try.underlying34 h with ⟨e, _⟩ | ⟨ad, len, cap, m, n, D, Pl, e, hb, hl, hm, hmm, _, hx⟩
  · simp only [Value.cells, List.cons.injEq, and_true, Value.slice.injEq] at e
    obtain ⟨rfl, rfl, rfl⟩ := e
    exact ⟨none, [], 0, rfl, fun h => by simp [bcs] at h, by simp⟩
  · have hlm : len ≤ m := by rw [hmm]; split <;> omega
    have each : ∀ i, i < len → ∃ f : Bool, (∀ r v, ([.bool f] : List Value)[r]? = some v → W.cell? (ad.add (i * 1 + r)) = some v) ∧ True := by
      intro i hi
      obtain ⟨cs', h1, h2⟩ := hx i (by omega)
      rw [cells_bool] at h1
      obtain ⟨_, hlen, hcell⟩ := World.cells?_some h1
      obtain ⟨q, e2, _⟩ := DataW.trod_bool Try.underlying4 h2
      have c0 := hcell 0 (by omega)
      rw [add_add] at c0
      subst e2
      refine ⟨q, fun r v hv => ?_, trivial⟩
      match r, hv with
      | 0, hv => simp at hv; subst hv; simpa using c0
    obtain ⟨xs, hxl, hrow, hall⟩ := rows_from (en := fun x => [.bool x]) (fun _ => rfl) (by decide) each
    rw [← bcs_flats] at hrow
    simp only [Value.cells, List.cons.injEq, and_true, Value.slice.injEq] at e
    obtain ⟨rfl, rfl, rfl⟩ := e
    exact ⟨some ad, xs, vc, by rw [hxl], RRow.of_crow hrow, by rw [hxl]; unfold maxLen at hm; omega⟩
end Go.Proofs.Ytdlgailodhlbmaa
/- FieldP: The program's own field of bytes: plus, doubled, times, power, inverse. -/
namespace Go.Proofs.Ytdlgailodhlbmaa
open Go.RowKit
open W (B8)
attribute [local go_sem ↓] Go.wp_at_zero Go.wp_at_succ
attribute [local irreducible] W.gm W.xt W.gp W.gi addB mulT

abbrev u8v (A : B8) : Value := .int .u8 (A.toNat : Int)
theorem u8_xor8 (A B : B8) : bits .xor .u8 (A.toNat : Int) (B.toNat : Int) = ((A ^^^ B).toNat : Int) := u8_xor ⟨A⟩ ⟨B⟩
theorem implPlus (A B : B8) (w : World) : Calls Try.prog 77 #[.int .u8 (A.toNat : Int), .int .u8 (B.toNat : Int)] w fun e w' => e = .returned (.int .u8 ((A ^^^ B).toNat : Int)) ∧ w' = w := by
  have hx := u8_xor8 A B
  go_enter Try.func77, Try.ntmps77
  go_wp2_with fail
  go_ret
  exact ⟨rfl, rfl⟩
theorem xt_lo : ∀ A : B8, A.toNat < 128 → A.toNat * 2 = (W.xt A).toNat := by unfold W.xt; decide +kernel
theorem xt_hi : ∀ A : B8, ¬ A.toNat < 128 → (BitVec.ofNat 8 (A.toNat * 2 % 256)) ^^^ 29#8 = W.xt A ∧ (BitVec.ofNat 8 (A.toNat * 2 % 256)).toNat = A.toNat * 2 % 256 := by unfold W.xt; decide +kernel
theorem implDoubled (A : B8) (w : World) : Calls Try.prog 84 #[.int .u8 (A.toNat : Int)] w fun e w' => e = .returned (.int .u8 ((W.xt A).toNat : Int)) ∧ w' = w := by
  by_cases h : A.toNat < 128
  · have h' : (A.toNat : Int) < 128 := by omega
    have HX : Hid (((W.xt A).toNat : Int) = (A.toNat : Int) * 2) := by rw [← xt_lo A h]; push_cast; rfl
    go_enter Try.func84, Try.ntmps84
    go_wp2_with fail
    go_ret
    exact ⟨by rw [HX.out]; rfl, rfl⟩
  · have h' : ¬ (A.toNat : Int) < 128 := by omega
    have hx : bits .xor .u8 ((A.toNat : Int) * 2 % 256) 29 = ((W.xt A).toNat : Int) := by
      obtain ⟨e1, e2⟩ := xt_hi A h
      have := u8_xor8 (BitVec.ofNat 8 (A.toNat * 2 % 256)) 29#8
      rw [e1, e2] at this
      exact this
    go_enter Try.func84, Try.ntmps84
    go_wp2_with fail
    go_ret
    exact ⟨rfl, rfl⟩
theorem u8_and8 (A B : B8) : bits .and .u8 (A.toNat : Int) (B.toNat : Int) = ((A &&& B).toNat : Int) := by
  have h1 : ∀ z : B8, (BitVec.ofInt 8 (z.toNat : Int)).toNat = z.toNat := fun z => by rw [BitVec.toNat_ofInt]; have := z.isLt; omega
  have h2 := (A &&& B).isLt
  show IntKind.u8.wrap ((BitVec.ofInt 8 (A.toNat : Int) &&& BitVec.ofInt 8 (B.toNat : Int)).toNat : Nat) = _
  rw [BitVec.toNat_and, h1, h1]
  rw [BitVec.toNat_and] at h2 ⊢
  simp [IntKind.wrap, IntKind.bits, IntKind.signed]
  omega
theorem low_bit : ∀ C : B8, (((C &&& 1#8).toNat : Int) == 1) = C.getLsbD 0 := by decide +kernel
theorem bit_at (B : B8) (k : Nat) : (bits .and .u8 ((B.toNat : Int) / 2 ^ k) 1 == 1) = (B >>> k).getLsbD 0 := by
  have e : ((B >>> k).toNat : Int) = (B.toNat : Int) / 2 ^ k := by rw [BitVec.toNat_ushiftRight, Nat.shiftRight_eq_div_pow]; push_cast; rfl
  rw [← e, ← low_bit, ← u8_and8]; rfl
set_option maxHeartbeats 1000000 in
theorem implTimes (A0 B : B8) (w : World) : Calls Try.prog 78 #[.int .u8 (A0.toNat : Int), .int .u8 (B.toNat : Int)] w fun e w' => e = .returned (.int .u8 ((W.gm A0 B).toNat : Int)) ∧ w' = w := by
  obtain ⟨P, hP⟩ : ∃ P, P = W.gm A0 B := ⟨_, rfl⟩
  rw [← hP]
  have HP : Hid (P = 0#8 ^^^ W.gm A0 (B >>> 0)) := by rw [BitVec.zero_xor, BitVec.ushiftRight_zero]; exact hP
  clear hP
  go_enter Try.func78, Try.ntmps78
  go_wp2_with fail
  go_loop [0, 5, 7] (fun a o i => ∃ (A O : B8) (k : Nat), a = .int .u8 (A.toNat : Int) ∧ o = .int .u8 (O.toNat : Int) ∧ i = .int .i64 k ∧ k ≤ 8 ∧ P = O ^^^ W.gm A (B >>> k)) (fun _ _ i => 8 - (intOf i).toNat)
  case atStart => exact ⟨A0, 0#8, 0, rfl, rfl, rfl, Nat.zero_le _, HP.out⟩
  case round =>
    obtain ⟨A, O, k, rfl, rfl, rfl, hk, hr⟩ := hrel
    by_cases hlt : k < 8
    · have k0 : (0 : Int) ≤ (k : Int) := by omega
      have k8 : (k : Int) < 8 := by omega
      obtain ⟨r1, r2⟩ := gm_round hr
      have hs : B >>> k >>> 1 = B >>> (k + 1) := (BitVec.shiftRight_add ..).symm
      rw [hs] at r1 r2
      have hbit := bit_at B k
      have hd := implDoubled A
      have hp := implPlus O A
      cases hb : (B >>> k).getLsbD 0 with
      | true =>
        rw [hb] at hbit
        have HR : Hid (P = (O ^^^ A) ^^^ W.gm (W.xt A) (B >>> (k + 1))) := r1 hb
        clear r1 r2 hs hr
        generalize W.xt A = A' at *
        generalize O ^^^ A = O' at *
        go_wp2_with fail
        refine (hp _).mono ?_
        rintro e w1 ⟨rfl, rfl⟩
        go_wp2_with fail
        refine (hd _).mono ?_
        rintro e w2 ⟨rfl, rfl⟩
        go_wp2_with fail
        go_round
        case rel => exact ⟨A', O', k + 1, rfl, rfl, by go_num, by omega, HR.out⟩
        case measure => simp [intOf]; omega
      | false =>
        rw [hb] at hbit
        have HR : Hid (P = O ^^^ W.gm (W.xt A) (B >>> (k + 1))) := r2 hb
        clear r1 r2 hs hr
        generalize W.xt A = A' at *
        go_wp2_with fail
        refine (hd _).mono ?_
        rintro e w2 ⟨rfl, rfl⟩
        go_wp2_with fail
        go_round
        case rel => exact ⟨A', O, k + 1, rfl, rfl, by go_num, by omega, HR.out⟩
        case measure => simp [intOf]; omega
    · have hlt' : ¬ (k : Int) < 8 := by omega
      obtain rfl : k = 8 := by omega
      have HR : Hid (P = O) := by
        have e : B >>> 8 = 0#8 := by apply BitVec.eq_of_toNat_eq; simp [BitVec.toNat_ushiftRight, Nat.shiftRight_eq_div_pow]; have := B.isLt; omega
        rw [e, W.gm_zero, BitVec.xor_zero] at hr
        exact hr
      clear hr
      go_wp2_with fail
      go_ret
      exact ⟨by rw [HR.out]; rfl, rfl⟩
set_option maxHeartbeats 1000000 in
theorem implPower (A : B8) (n : Nat) (w : World) (h : n ≤ 1000) : Calls Try.prog 85 #[.int .u8 (A.toNat : Int), .int .i64 (n : Int)] w fun e w' => e = .returned (.int .u8 ((W.gp A n).toNat : Int)) ∧ w' = w := by
  go_enter Try.func85, Try.ntmps85
  go_wp2_with fail
  go_loop [5, 7] (fun o i => ∃ k : Nat, i = .int .i64 k ∧ k ≤ n ∧ o = .int .u8 ((W.gp A k).toNat : Int)) (fun _ i => n - (intOf i).toNat)
  case atStart => exact ⟨0, rfl, Nat.zero_le _, by rw [W.gp_0]; rfl⟩
  case round =>
    obtain ⟨k, rfl, hk, rfl⟩ := hrel
    by_cases hlt : k < n
    · have hlt' : (k : Int) < (n : Int) := by omega
      have hc := implTimes (W.gp A k) A
      rw [← W.gp_succ] at hc
      go_wp2_with fail
      refine (hc _).mono ?_
      rintro e w1 ⟨rfl, rfl⟩
      go_wp2_with fail
      go_round
      case rel => exact ⟨k + 1, by go_num, by omega, rfl⟩
      case measure => simp [intOf]; omega
    · have hlt' : ¬ (k : Int) < (n : Int) := by omega
      obtain rfl : k = n := by omega
      go_wp2_with fail
      go_ret
      exact ⟨rfl, rfl⟩
theorem gi_power (A : B8) : W.gi A = W.gp A 254 := by
  unfold W.gi
  by_cases h : A = 0#8
  · rw [if_pos h, h, W.gp_succ 0#8 253, W.gm_zero]
  · exact if_neg h
theorem implInverse (A : B8) (w : World) : Calls Try.prog 80 #[.int .u8 (A.toNat : Int)] w fun e w' => e = .returned (.int .u8 ((W.gi A).toNat : Int)) ∧ w' = w := by
  have hc := fun w => implPower A 254 w (by omega)
  rw [← gi_power] at hc
  have HC : Hid _ := hc
  clear hc
  go_enter Try.func80, Try.ntmps80
  go_wp2_with fail
  refine (HC.out _).mono ?_
  rintro e w1 ⟨rfl, rfl⟩
  go_wp2_with fail
  go_ret
  exact ⟨rfl, rfl⟩
end Go.Proofs.Ytdlgailodhlbmaa
/- ByA: Rows of rows of bytes in memory: read, written, answered, made by append. Nothing of the program is read here. -/
namespace Go.Proofs.Ytdlgailodhlbmaa
open Go.RowKit
open W (B8)

def ucs (xs : List B8) : List Value := xs.map u8v
theorem ucs_len (xs : List B8) : (ucs xs).length = xs.length := by simp [ucs]
theorem ucs_get (xs : List B8) (j : Nat) (h : j < xs.length) : (ucs xs)[j]? = some (.int .u8 ((xs.getD j 0#8).toNat : Int)) := by simp [ucs, List.getD, h]
theorem ucs_set (xs : List B8) (j : Nat) (x : B8) : (ucs xs).set j (.int .u8 (x.toNat : Int)) = ucs (xs.set j x) := by simp [ucs, List.map_set]
theorem crow_byte {w : World} {a : Option Addr} {xs : List B8} (h : CRow w a (ucs xs)) (hp : 0 < xs.length) : ∃ b off, a = some ⟨b, off, none⟩ ∧ b < w.heap.size ∧ ∀ j, j < xs.length → w.cell? ⟨b, off + j, none⟩ = some (.int .u8 ((xs.getD j 0#8).toNat : Int)) := by
  obtain ⟨b, off, e, hb, hc⟩ := h (by rw [ucs_len]; exact hp)
  exact ⟨b, off, e, hb, fun j hj => hc j _ (ucs_get xs j hj)⟩
/-- A row of bytes that stands in a row of rows. -/
structure KS where
  loc : Option Addr
  row : List B8
  cap : Nat
instance : Inhabited KS := ⟨⟨none, [], 0⟩⟩
def ksv (s : KS) : Value := .slice s.loc s.row.length s.cap
def kvs (ss : List KS) : List Value := ss.map ksv
def kws (ss : List KS) : List (List B8) := ss.map (·.row)
theorem kvs_len (ss : List KS) : (kvs ss).length = ss.length := by simp [kvs]
theorem kws_len (ss : List KS) : (kws ss).length = ss.length := by simp [kws]
theorem kvs_get (ss : List KS) (i : Nat) (h : i < ss.length) : (kvs ss)[i]? = some (ksv ss[i]) := by simp [kvs, h]
theorem kws_get (ss : List KS) (i : Nat) (h : i < ss.length) : (kws ss)[i]'(by rw [kws_len]; exact h) = ss[i].row := by simp [kws]
theorem kws_snoc (ss : List KS) (s : KS) : kws (ss ++ [s]) = kws ss ++ [s.row] := by simp [kws]
/-- A row of rows that is read, its blocks in a range. -/
def KR (w : World) (a : Option Addr) (ss : List KS) (lo hi : Nat) : Prop := RRow w a (kvs ss) lo hi ∧ ∀ s ∈ ss, RRow w s.loc (ucs s.row) lo hi
theorem KR.turned {w w' : World} {a : Option Addr} {ss : List KS} {lo hi lo' hi' : Nat} (h : KR w a ss lo hi) (t : Turned w w' lo' hi') (hd : hi ≤ lo' ∨ hi' ≤ lo) : KR w' a ss lo hi := ⟨h.1.turned t hd, fun s hs => (h.2 s hs).turned t hd⟩
theorem KR.below {w w' : World} {a : Option Addr} {ss : List KS} {lo hi : Nat} (h : KR w a ss lo hi) (hb : Below w.heap.size w w') : KR w' a ss lo hi := ⟨h.1.below hb, fun s hs => (h.2 s hs).below hb⟩
theorem KR.wide {w : World} {a : Option Addr} {ss : List KS} {lo hi lo' hi' : Nat} (h : KR w a ss lo hi) (h1 : lo' ≤ lo) (h2 : hi ≤ hi') : KR w a ss lo' hi' := ⟨h.1.wide h1 h2, fun s hs => (h.2 s hs).wide h1 h2⟩
theorem KR.nil (w : World) (a : Option Addr) (lo hi : Nat) : KR w a [] lo hi := ⟨fun h => by simp [kvs] at h, by simp⟩
/-- What the walk wants of it: the outer row's place and cells. -/
theorem KR.at {w : World} {a : Option Addr} {ss : List KS} {lo hi : Nat} (h : KR w a ss lo hi) (hp : 0 < ss.length) : ∃ b off, a = some ⟨b, off, none⟩ ∧ b < w.heap.size ∧ ∀ i (hi : i < ss.length), w.cell? ⟨b, off + i, none⟩ = some (ksv ss[i]) := by
  obtain ⟨b, off, e, _, _, h3, h4⟩ := h.1 (by rw [kvs_len]; exact hp)
  exact ⟨b, off, e, h3, fun i hi => h4 i _ (kvs_get ss i hi)⟩
/-- A row of rows that may be written: each row in a block of its own, all in a range. -/
structure KW (w : World) (g : Nat) (ss : List KS) (lo hi : Nat) : Prop where
  out : WCells w g (kvs ss)
  glo : lo ≤ g
  ghi : g < hi
  rows : ∀ s ∈ ss, ∃ b, s.loc = some ⟨b, 0, none⟩ ∧ lo ≤ b ∧ b < hi ∧ b ≠ g ∧ WCells w b (ucs s.row) ∧ s.row.length ≤ s.cap
  apart : (ss.map KS.loc).Nodup
theorem KW.mr {w : World} {g : Nat} {ss : List KS} {lo hi : Nat} (h : KW w g ss lo hi) : KR w (some ⟨g, 0, none⟩) ss lo hi :=
  ⟨RRow.of_wcells h.out h.glo h.ghi, fun s hs => by obtain ⟨b, e, h1, h2, _, h3, _⟩ := h.rows s hs; rw [e]; exact RRow.of_wcells h3 h1 h2⟩
theorem KW.turned {w w' : World} {g : Nat} {ss : List KS} {lo hi lo' hi' : Nat} (h : KW w g ss lo hi) (t : Turned w w' lo' hi') (hd : hi ≤ lo' ∨ hi' ≤ lo) : KW w' g ss lo hi :=
  ⟨h.out.turned t (by have := h.glo; have := h.ghi; omega), h.glo, h.ghi, fun s hs => by
    obtain ⟨b, e, h1, h2, h3, h4, h5⟩ := h.rows s hs
    exact ⟨b, e, h1, h2, h3, h4.turned t (by omega), h5⟩, h.apart⟩
theorem KW.below {w w' : World} {g : Nat} {ss : List KS} {lo hi : Nat} (h : KW w g ss lo hi) (hb : Below w.heap.size w w') : KW w' g ss lo hi :=
  ⟨h.out.below hb h.out.1, h.glo, h.ghi, fun s hs => by
    obtain ⟨b, e, h1, h2, h3, h4, h5⟩ := h.rows s hs
    exact ⟨b, e, h1, h2, h3, h4.below hb h4.1, h5⟩, h.apart⟩
theorem KW.wide {w : World} {g : Nat} {ss : List KS} {lo hi lo' hi' : Nat} (h : KW w g ss lo hi) (h1 : lo' ≤ lo) (h2 : hi ≤ hi') : KW w g ss lo' hi' :=
  ⟨h.out, Nat.le_trans h1 h.glo, Nat.lt_of_lt_of_le h.ghi h2, fun s hs => by
    obtain ⟨b, e, q1, q2, q3, q4, q5⟩ := h.rows s hs
    exact ⟨b, e, by omega, by omega, q3, q4, q5⟩, h.apart⟩
/-- An answer of rows of bytes: nothing, or a row of rows that may be written. -/
def KAns (w : World) (v : Value) (X : List (List B8)) (lo hi : Nat) : Prop :=
  ∃ (a : Option Addr) (cap : Nat) (ss : List KS), v = .slice a ss.length cap ∧ kws ss = X ∧ ss.length ≤ cap ∧ (ss = [] ∨ ∃ g, a = some ⟨g, 0, none⟩ ∧ KW w g ss lo hi)
theorem KAns.empty (w : World) (a : Option Addr) (cap lo hi : Nat) : KAns w (.slice a 0 cap) [] lo hi := ⟨a, cap, [], rfl, rfl, Nat.zero_le _, .inl rfl⟩
/-- A value that is these rows of bytes. -/
def KSee (w : World) (v : Value) (X : List (List B8)) (lo hi : Nat) : Prop := ∃ (a : Option Addr) (cap : Nat) (ss : List KS), v = .slice a ss.length cap ∧ kws ss = X ∧ KR w a ss lo hi
theorem KAns.see {w : World} {v : Value} {X : List (List B8)} {lo hi : Nat} (h : KAns w v X lo hi) : KSee w v X lo hi := by
  obtain ⟨a, cap, ss, e, hr, _, h1⟩ := h
  refine ⟨a, cap, ss, e, hr, ?_⟩
  rcases h1 with rfl | ⟨g, rfl, hm⟩
  · exact KR.nil _ _ _ _
  · exact hm.mr
theorem KSee.turned {w w' : World} {v : Value} {X : List (List B8)} {lo hi lo' hi' : Nat} (h : KSee w v X lo hi) (t : Turned w w' lo' hi') (hd : hi ≤ lo' ∨ hi' ≤ lo) : KSee w' v X lo hi := by
  obtain ⟨a, cap, ss, e, hr, h1⟩ := h
  exact ⟨a, cap, ss, e, hr, h1.turned t hd⟩
theorem KSee.below {w w' : World} {v : Value} {X : List (List B8)} {lo hi : Nat} (h : KSee w v X lo hi) (hb : Below w.heap.size w w') : KSee w' v X lo hi := by
  obtain ⟨a, cap, ss, e, hr, h1⟩ := h
  exact ⟨a, cap, ss, e, hr, h1.below hb⟩
theorem KSee.wide {w : World} {v : Value} {X : List (List B8)} {lo hi lo' hi' : Nat} (h : KSee w v X lo hi) (h1 : lo' ≤ lo) (h2 : hi ≤ hi') : KSee w v X lo' hi' := by
  obtain ⟨a, cap, ss, e, hr, q⟩ := h
  exact ⟨a, cap, ss, e, hr, q.wide h1 h2⟩
theorem KAns.turned {w w' : World} {v : Value} {X : List (List B8)} {lo hi lo' hi' : Nat} (h : KAns w v X lo hi) (t : Turned w w' lo' hi') (hd : hi ≤ lo' ∨ hi' ≤ lo) : KAns w' v X lo hi := by
  obtain ⟨a, cap, ss, e, hr, hc, h1⟩ := h
  refine ⟨a, cap, ss, e, hr, hc, ?_⟩
  rcases h1 with rfl | ⟨g, rfl, hm⟩
  · exact .inl rfl
  · exact .inr ⟨g, rfl, hm.turned t hd⟩
theorem KAns.below {w w' : World} {v : Value} {X : List (List B8)} {lo hi : Nat} (h : KAns w v X lo hi) (hb : Below w.heap.size w w') : KAns w' v X lo hi := by
  obtain ⟨a, cap, ss, e, hr, hc, h1⟩ := h
  refine ⟨a, cap, ss, e, hr, hc, ?_⟩
  rcases h1 with rfl | ⟨g, rfl, hm⟩
  · exact .inl rfl
  · exact .inr ⟨g, rfl, hm.below hb⟩
/-- What an answer of rows of bytes is: new memory alone. -/
def KPost (X : List (List B8)) (w : World) (e : Ending) (w' : World) : Prop := ∃ v, e = .returned v ∧ KAns w' v X w.heap.size w'.heap.size ∧ Below w.heap.size w w'
/-- A row of bytes is not the row of rows. -/
theorem krow_apart {w : World} {b B t n : Nat} {v : Value} {row : List B8} {ts : List KS} (h : WCells w b (ucs row)) (hr : row ≠ []) (ho : w.ownsRow B t 1 v n (kvs ts)) (hts : ts ≠ []) : v.ownBlock ≠ some b := by
  intro e
  have hc := ho.cells e
  obtain ⟨x, r, rfl⟩ := List.exists_cons_of_ne_nil hr
  obtain ⟨s, t', rfl⟩ := List.exists_cons_of_ne_nil hts
  have h1 := (h.2 0 (u8v x) rfl).1
  have h2 := hc 0 (ksv s) rfl
  have e2 : (⟨b, 0, none⟩ : Addr).add 0 = ⟨b, 0, none⟩ := by simp [Addr.add]
  rw [e2, h1] at h2
  simp [ksv] at h2
/-- Where the making of a row of rows stands. -/
structure KI (w wr : World) (v : Value) (ts : List KS) : Prop where
  own : wr.ownsRow w.heap.size 82 1 v ts.length (kvs ts)
  rows : ∀ s ∈ ts, ∃ b, s.loc = some ⟨b, 0, none⟩ ∧ w.heap.size ≤ b ∧ WCells wr b (ucs s.row) ∧ s.row.length ≤ s.cap ∧ s.row ≠ []
  apart : (ts.map KS.loc).Nodup
  bel : Below w.heap.size w wr
theorem KI.start (w : World) {wr : World} {v : Value} (ho : wr.ownsRow w.heap.size 82 1 v 0 []) (hb : Below w.heap.size w wr) : KI w wr v [] := ⟨ho, by simp, List.nodup_nil, hb⟩
theorem KI.below {w wr w' : World} {v : Value} {ts : List KS} (h : KI w wr v ts) (hb : Below wr.heap.size wr w') : KI w w' v ts :=
  ⟨h.own.kept (row := none) ⟨hb.os, hb.tape, hb.output, hb.size, fun k hk _ => hb.block k hk⟩ (Classical.em _), fun s hs => by
    obtain ⟨b, e, q1, q2, q3⟩ := h.rows s hs
    exact ⟨b, e, q1, q2.below hb q2.1, q3⟩, h.apart, h.bel.trans (hb.mono h.bel.size)⟩
/-- A block beyond is turned. -/
theorem KI.other {w wr w' : World} {v : Value} {ts : List KS} {B g : Nat} (h : KI w wr v ts) (hg : wr.grownBy w' (some g)) (hB : B ≤ g) (ho : ∀ q, v.ownBlock = some q → q < B) (hr : ∀ s ∈ ts, ∀ b, s.loc = some ⟨b, 0, none⟩ → b < B) (hw : w.heap.size ≤ B) (hs : w.heap.size ≤ wr.heap.size) : KI w w' v ts := by
  refine ⟨h.own.kept hg (.inr fun e => by have := ho g e; omega), fun s hs' => ?_, h.apart, h.bel.grown hg hs (fun k e => by cases e; omega)⟩
  obtain ⟨b, e, q1, q2, q3⟩ := h.rows s hs'
  exact ⟨b, e, q1, q2.apart hg (by have := hr s hs' b e; omega), q3⟩
theorem KI.append {w wr w1 : World} {v v' : Value} {ts : List KS} {o : Obj} {b : Nat} {row : List B8} {cap : Nat} (h : KI w wr v ts) (hb : w.heap.size ≤ b) (hrow : WCells wr b (ucs row)) (hne : row ≠ []) (hcap : row.length ≤ cap)
    (hv : ∀ q, v.ownBlock = some q → q ≠ b) (hnew : ∀ s ∈ ts, s.loc ≠ some ⟨b, 0, none⟩)
    (hown : w1.ownsRow w.heap.size 82 1 v' (ts.length + 1) (kvs ts ++ [.slice (some ⟨b, 0, none⟩) row.length cap])) (hg : (wr.alloc o).grownBy w1 v.ownBlock) : KI w w1 v' (ts ++ [KS.mk (some ⟨b, 0, none⟩) row cap]) := by
  have keep : ∀ {c : Nat} {L : List Value}, WCells wr c L → (∀ q, v.ownBlock = some q → q ≠ c) → WCells w1 c L := fun {c L} hc hq => by
    have h1 : WCells (wr.alloc o) c L := hc.below ((Below.refl wr.heap.size wr).alloc (Nat.le_refl _) o) hc.1
    refine ⟨Nat.lt_of_lt_of_le h1.1 hg.size, fun i u hu => ?_⟩
    have hbk : w1.heap[c]? = (wr.alloc o).heap[c]? := hg.block c h1.1 (fun e => hq c e.symm rfl)
    exact ⟨(World.cell?_of_block (a := ⟨c, i, none⟩) hbk).trans (h1.2 i u hu).1, (World.frozen?_of_block (a := ⟨c, i, none⟩) hbk).trans (h1.2 i u hu).2⟩
  refine ⟨?_, fun s hs => ?_, ?_, (h.bel.alloc h.bel.size o).grown hg (by have := h.bel.size; simp; omega) (fun k e => (h.own.lt k e).1)⟩
  · have e : kvs (ts ++ [KS.mk (some ⟨b, 0, none⟩) row cap]) = kvs ts ++ [.slice (some ⟨b, 0, none⟩) row.length cap] := by simp [kvs, ksv]
    rw [e, List.length_append]
    exact hown
  · rcases List.mem_append.1 hs with h1 | h1
    · obtain ⟨c, e, q1, q2, q3, q4⟩ := h.rows s h1
      refine ⟨c, e, q1, keep q2 (fun q hq => ?_), q3, q4⟩
      have := krow_apart q2 q4 h.own (List.ne_nil_of_mem h1)
      intro e2; subst e2; exact this hq
    · simp at h1
      subst h1
      exact ⟨b, rfl, hb, keep hrow hv, hcap, hne⟩
  · rw [List.map_append, List.nodup_append]
    refine ⟨h.apart, by simp, fun l hl l' hl' => ?_⟩
    obtain ⟨s, hs, rfl⟩ := List.mem_map.1 hl
    simp only [List.map_cons, List.map_nil, List.mem_singleton] at hl'
    subst hl'
    exact hnew s hs
theorem KI.fin {w wr : World} {v : Value} {ts : List KS} {X : List (List B8)} (h : KI w wr v ts) (hX : kws ts = X) : KAns wr v X w.heap.size wr.heap.size := by
  have hlt := h.own.lt
  have hown := h.own
  obtain ⟨_, ⟨rfl, h0⟩ | ⟨g, cap, cur, rfl, hB, hcur, hn, _⟩⟩ := hown
  · have : ts = [] := List.eq_nil_of_length_eq_zero h0
    subst this
    exact ⟨none, 0, [], rfl, hX, Nat.le_refl _, .inl rfl⟩
  · refine ⟨_, cap, ts, rfl, hX, hn, ?_⟩
    by_cases hts : ts = []
    · exact .inl hts
    · refine .inr ⟨g, rfl, own_wcells h.own, hB, (hlt g rfl).2, fun s hs => ?_, h.apart⟩
      obtain ⟨b, e, q1, q2, q3, q4⟩ := h.rows s hs
      refine ⟨b, e, q1, q2.1, fun eb => ?_, q2, q3⟩
      subst eb
      exact krow_apart q2 q4 h.own hts rfl
end Go.Proofs.Ytdlgailodhlbmaa
/- PrC: The program's own intsOf, matrixOf, ones. -/
namespace Go.Proofs.Ytdlgailodhlbmaa
open Go.RowKit
open W (B8)
attribute [local go_sem ↓] Go.wp_at_zero Go.wp_at_succ
attribute [local irreducible] W.gm W.xt W.gp W.gi

theorem infoRowB : (Try.prog.info? 82).map (fun i => (i.zero, i.size, i.bytes)) = some (some (.slice none 0 0), 1, 24) := by kernel_rfl
theorem infoB : (Try.prog.info? 71).map (fun i => (i.zero, i.size, i.bytes)) = some (some (.int .u8 0), 1, 1) := by kernel_rfl
/-- Bytes as numbers. -/
def toI (r : List B8) : List Int := r.map fun A => (A.toNat : Int)
def toIs (K : List (List B8)) : List (List Int) := K.map toI
theorem toI_len (r : List B8) : (toI r).length = r.length := by simp [toI]
theorem toI_ne {r : List B8} (h : r ≠ []) : toI r ≠ [] := fun e => h (by simpa [toI] using e)
/-- Rows that are none of them nothing. -/
def NE (K : List (List B8)) : Prop := ∀ r ∈ K, r ≠ [] ∧ r.length ≤ 1000
theorem own_at {w : World} {B n sz : Nat} {t : TypeId} {v : Value} {L : List Value} (h : w.ownsRow B t sz v n L) (hp : 0 < n) : ∃ g cap, v = .slice (some ⟨g, 0, none⟩) n cap ∧ n ≤ cap := by
  rcases h.2 with ⟨_, h0⟩ | ⟨g, cap, _, rfl, _, _, hc, _⟩
  · omega
  · exact ⟨g, cap, rfl, hc⟩
theorem BI.newrow {w wo wi : World} {v : Value} {ts : List SR} {gr : Nat} (h : BI w wo v ts) (hb : Below wo.heap.size wo wi) (hg : wo.heap.size ≤ gr) : BI w wi v ts ∧ (∀ q, v.ownBlock = some q → q ≠ gr) ∧ ∀ s ∈ ts, s.loc ≠ some ⟨gr, 0, none⟩ :=
  ⟨h.below hb, fun q hq => by have := (h.own.lt q hq).2; omega, fun s hs e => by obtain ⟨b', e', _, q, _⟩ := h.rows s hs; have : b' = gr := congrArg Addr.block (Option.some.inj (e'.symm.trans e)); have := q.1; omega⟩
/-- Rows that were made by append, and are answered. -/
def BPostI (X : List (List Int)) (w : World) (e : Ending) (w' : World) : Prop := ∃ v ts, e = .returned v ∧ rws ts = X ∧ BI w w' v ts
set_option maxRecDepth 100000 in
set_option maxHeartbeats 2000000 in
theorem implIntsOfB (w : World) (v : Value) (K : List (List B8)) (lo hi : Nat) (hs : KSee w v K lo hi) (hne : NE K) (hl : K.length ≤ 1000) :
    Calls Try.prog 57 #[v] w fun e w' => BPostI (toIs K) w e w' := by
  obtain ⟨a, cap, ss, rfl, hr, hm⟩ := hs
  obtain ⟨i0, hi0, hz0, hz1, hz2⟩ := info_parts infoRow
  obtain ⟨i1, hi1, hy0, hy1, hy2⟩ := info_parts infoIntG
  have HM := Shut.mk hm
  have HX := Shut.mk (show kws ss = K from hr)
  obtain ⟨n, hn⟩ : ∃ n, n = ss.length := ⟨_, rfl⟩
  have HN : Hid (n = ss.length ∧ K.length = n) := ⟨hn, by rw [← hr, kws_len, hn]⟩
  have HE := Shut.mk hne
  have hn1 : n ≤ 1000 := by have := HN.out.2; omega
  rw [← hn]
  clear hm hr hne hn hl
  go_enter Try.func57, Try.ntmps57
  go_wp2_with fail
  go_loopw [3, 11] (fun v i wr => ∃ (ts : List SR) (vv : Value), vv = v ∧ i = .int .i64 (ts.length : Nat) ∧ ts.length ≤ n ∧ Shut (rws ts = (toIs K).take ts.length) ∧ Shut (BI w wr vv ts)) (fun _ i _ => n - (intOf i).toNat)
  case atStart => exact ⟨[], _, rfl, rfl, by simp, ⟨rfl⟩, ⟨BI.start w (World.ownsRow_nil _ _ _ _) (Below.refl _ _)⟩⟩
  case round =>
    obtain ⟨ts, v, rfl, rfl, hk, hrw, hbi⟩ := hrel
    obtain ⟨wo, rfl⟩ : ∃ wo, wo = wr := ⟨_, rfl⟩
    obtain ⟨i, hie⟩ : ∃ i, i = ts.length := ⟨_, rfl⟩
    have HI : Hid (i = ts.length) := hie
    rw [← hie] at hk ⊢
    clear hie
    by_cases hlt : i < n
    · have hls : i < ss.length := by have := HN.out.1; omega
      have hso := hbi.out.bel.size
      obtain ⟨b, off, rfl, lb, hcell⟩ := (HM.out.below hbi.out.bel).at (by omega)
      have d1 := hcell i hls
      have hrr := ((HM.out.below hbi.out.bel).2 ss[i] (List.getElem_mem hls)).crow
      have hmem : ss[i].row ∈ K := by rw [← HX.out]; exact List.mem_map.2 ⟨ss[i], List.getElem_mem hls, rfl⟩
      have hne := HE.out _ hmem
      have hget : K[i]'(by have := HN.out.2; omega) = ss[i].row := by
        have := kws_get ss i hls
        simp only [HX.out] at this
        exact this
      unfold ksv at d1
      obtain ⟨row, hrow⟩ : ∃ row, row = ss[i].row := ⟨_, rfl⟩
      rw [← hrow] at d1 hrr hne hget
      generalize ss[i].loc = loc at *
      generalize ss[i].cap = cp at *
      have HST := Shut.mk (show (toIs K).take (i + 1) = (toIs K).take i ++ [toI row] by
        have hi2 : i < (toIs K).length := by unfold toIs; rw [List.length_map]; have := HN.out.2; omega
        rw [List.take_succ_eq_append_getElem hi2]
        simp only [toIs, List.getElem_map, hget])
      obtain ⟨m, hm⟩ : ∃ m, m = row.length := ⟨_, rfl⟩
      have HMR : Hid (m = row.length) := hm
      rw [← hm] at d1 hne
      obtain ⟨hne1, hm1⟩ := hne
      have hm0 : 0 < m := by rw [hm]; exact List.length_pos_iff.2 hne1
      have HR := Shut.mk hrr
      have HNE : Hid (row ≠ []) := hne1
      have k0 : (0 : Int) ≤ (i : Int) := by omega
      have k1 : (i : Int) < (n : Int) := by omega
      clear hm hrow hcell hmem hrr hget hne1
      go_wp2_with fail
      go_loopw [6, 17] (fun rv kk wq => ∃ (k : Nat) (rr : Value), rr = rv ∧ kk = .int .i64 k ∧ k ≤ m ∧ Shut (wq.ownsRow wo.heap.size 3 1 rr k (ics (toI (row.take k)))) ∧ Shut (Below wo.heap.size wo wq)) (fun _ kk _ => m - (intOf kk).toNat)
      case atStart => exact ⟨0, _, rfl, rfl, by omega, ⟨World.ownsRow_nil _ _ _ _⟩, ⟨Below.refl _ _⟩⟩
      case round =>
        obtain ⟨k, rr, rfl, rfl, hkm, hown, hbq⟩ := hrel
        obtain ⟨wi, rfl⟩ : ∃ wi, wi = wr := ⟨_, rfl⟩
        by_cases hkl : k < m
        · have hkr : k < row.length := by have := HMR.out; omega
          have hkl' : (k : Int) < (m : Int) := by omega
          have kk0 : (0 : Int) ≤ (k : Int) := by omega
          obtain ⟨b', o', rfl, lb', hc'⟩ := crow_byte (HR.out.stays hbq.out) (by omega)
          have d2 := hc' k hkr
          have hlx := b8_lt (row.getD k 0#8)
          have hst : ics (toI (row.take (k + 1))) = ics (toI (row.take k)) ++ [.int .i64 ((row.getD k 0#8).toNat : Int)] := by
            have e : row[k] = row.getD k 0#8 := by simp [List.getD, hkr]
            rw [List.take_succ_eq_append_getElem hkr, e]
            simp [toI, ics]
          generalize row.getD k 0#8 = x at *
          have HS2 := Shut.mk hst
          have hown3 := hown.out
          have hs3 := hbq.out.size
          clear hst hc' hown
          go_wp2_with (at_builtin; refine wpList_append_own _ rfl _ _ 32 rfl wo.heap.size 3 i1 (.int .i64 0) 1 8 Try.underlying32 hi1 hy0 hy1 hy2 rfl (by decide) _ _ _ rfl (hown3.alloc _) ⟨wi.heap.size, 0, none⟩ 1 1 [.int .i64 (x.toNat : Int)] rfl rfl (cell_one_new _ _ _) ?c2 ?c3 ?c4 ?c5 ?_)
          case c2 => first | rfl | (intro u hu; simp at hu; subst hu; rfl)
          case c3 => unfold maxLen; omega
          case c4 => omega
          case c5 => first | omega | (simp; omega)
          intro v' w4 hown' hgrow _
          rw [← HS2.out] at hown'
          have Q1 := Shut.mk hown'
          have Q2 := Shut.mk ((hbq.out.alloc hs3 (.cells #[.int .i64 (x.toNat : Int)] 3)).grown hgrow (by simp; omega) (fun j hj => (hown3.lt j hj).1))
          clear hown' hgrow hown3 hbq
          go_wp2_with fail
          go_roundw
          case rel => exact ⟨k + 1, v', rfl, by go_num, by omega, Q1, Q2⟩
          case measure => simp [intOf]; omega
        · have e : k = m := by omega
          have hkl' : ¬ (k : Int) < (m : Int) := by omega
          have hown2 := hown.out
          rw [List.take_of_length_le (by have := HMR.out; omega)] at hown2
          obtain ⟨gr, cr, rfl, hcr⟩ := own_at hown2 (by omega)
          have hgr := hown2.lt gr rfl
          have HROW := Shut.mk (own_wcells hown2)
          have HBI := Shut.mk (hbi.out.newrow hbq.out hgr.1)
          have hsi : wo.heap.size ≤ wi.heap.size := hbq.out.size
          have hgr1 := hgr.1
          have hown := HBI.out.1.own
          clear hown2 hbq hbi hgr
          rw [e] at *
          clear e
          go_wp2_with (at_builtin; refine wpList_append_own _ rfl _ _ 36 rfl w.heap.size 32 i0 (.slice none 0 0) 1 24 Try.underlying36 hi0 hz0 hz1 hz2 rfl (by decide) _ _ _ rfl (hown.alloc _) ⟨wi.heap.size, 0, none⟩ 1 1 [.slice (some ⟨gr, 0, none⟩) m cr] rfl rfl (cell_one_new _ _ _) ?c2 ?c3 ?c4 ?c5 ?_)
          case c2 => first | rfl | (intro u hu; simp at hu; subst hu; rfl)
          case c3 => unfold maxLen; have := HI.out; omega
          case c4 => have := HI.out; omega
          case c5 => first | omega | (simp; omega)
          intro v' w6 hown' hgrow _
          have hlen : (toI row).length = m := by rw [toI_len, HMR.out]
          have hap := HBI.out.1.append (cap := cr) (by omega) HROW.out (toI_ne HNE.out) (by rw [hlen]; exact hcr) HBI.out.2.1 HBI.out.2.2 (by rw [hlen]; exact hown') hgrow
          have HAP := Shut.mk hap
          have HR2 : Shut (rws (ts ++ [SR.mk (some ⟨gr, 0, none⟩) (toI row) cr]) = (toIs K).take (i + 1)) := ⟨by rw [rws_snoc, hrw.out, HST.out, HI.out]⟩
          clear hap hown' hgrow hown HBI HROW hrw hlen
          go_wp2_with fail
          go_roundw
          case rel => exact ⟨_, v', rfl, by rw [List.length_append, List.length_singleton, ← HI.out]; go_num, by rw [List.length_append, List.length_singleton, ← HI.out]; omega, ⟨by rw [List.length_append, List.length_singleton, ← HI.out]; exact HR2.out⟩, HAP⟩
          case measure => simp [intOf]; omega
    · have e : i = n := by omega
      have hlt' : ¬ (i : Int) < (n : Int) := by omega
      have HF := Shut.mk (show rws ts = toIs K by
        rw [hrw.out, List.take_of_length_le (by unfold toIs; rw [List.length_map]; have := HN.out.2; have := HI.out; omega)])
      have HB := Shut.mk hbi.out
      clear e hbi hrw
      go_wp2_with fail
      go_ret
      exact ⟨v, ts, rfl, HF.out, HB.out⟩
theorem implIntsOf (w : World) (v : Value) (K : List (List B8)) (lo hi : Nat) (hs : KSee w v K lo hi) (hne : NE K) (hl : K.length ≤ 1000) :
    Calls Try.prog 57 #[v] w fun e w' => MPost (toIs K) w e w' := (implIntsOfB w v K lo hi hs hne hl).mono fun _ _ ⟨v, _, he, hr, hb⟩ => ⟨v, he, hb.fin hr, hb.bel⟩
end Go.Proofs.Ytdlgailodhlbmaa
/- PrD: The program's own matrixOf. -/
namespace Go.Proofs.Ytdlgailodhlbmaa
open Go.RowKit
open W (B8)
attribute [local go_sem ↓] Go.wp_at_zero Go.wp_at_succ
attribute [local irreducible] W.gm W.xt W.gp W.gi

/-- Numbers as bytes. -/
def toB (r : List Int) : List B8 := r.map g8
def toBs (X : List (List Int)) : List (List B8) := X.map toB
theorem toB_len (r : List Int) : (toB r).length = r.length := by simp [toB]
theorem toB_ne {r : List Int} (h : r ≠ []) : toB r ≠ [] := fun e => h (by simpa [toB] using e)
def NEI (X : List (List Int)) : Prop := ∀ r ∈ X, r ≠ [] ∧ r.length ≤ 1000
theorem KI.newrow {w wo wi : World} {v : Value} {ts : List KS} {gr : Nat} (h : KI w wo v ts) (hb : Below wo.heap.size wo wi) (hg : wo.heap.size ≤ gr) : KI w wi v ts ∧ (∀ q, v.ownBlock = some q → q ≠ gr) ∧ ∀ s ∈ ts, s.loc ≠ some ⟨gr, 0, none⟩ :=
  ⟨h.below hb, fun q hq => by have := (h.own.lt q hq).2; omega, fun s hs e => by obtain ⟨b', e', _, q, _⟩ := h.rows s hs; have : b' = gr := congrArg Addr.block (Option.some.inj (e'.symm.trans e)); have := q.1; omega⟩
set_option maxRecDepth 100000 in
set_option maxHeartbeats 2000000 in
theorem implMatrixOf (w : World) (v : Value) (X : List (List Int)) (lo hi : Nat) (hs : MSee w v X lo hi) (hne : NEI X) (hl : X.length ≤ 1000) :
    Calls Try.prog 55 #[v] w fun e w' => KPost (toBs X) w e w' := by
  obtain ⟨a, cap, ss, rfl, hr, hm⟩ := hs
  obtain ⟨i0, hi0, hz0, hz1, hz2⟩ := info_parts infoRowB
  obtain ⟨i1, hi1, hy0, hy1, hy2⟩ := info_parts infoB
  have HM := Shut.mk hm
  have HX := Shut.mk (show rws ss = X from hr)
  obtain ⟨n, hn⟩ : ∃ n, n = ss.length := ⟨_, rfl⟩
  have HN : Hid (n = ss.length ∧ X.length = n) := ⟨hn, by rw [← hr, rws_len, hn]⟩
  have HE := Shut.mk hne
  have hn1 : n ≤ 1000 := by have := HN.out.2; omega
  rw [← hn]
  clear hm hr hne hn hl
  go_enter Try.func55, Try.ntmps55
  go_wp2_with fail
  go_loopw [3, 11] (fun v i wr => ∃ (ts : List KS) (vv : Value), vv = v ∧ i = .int .i64 (ts.length : Nat) ∧ ts.length ≤ n ∧ Shut (kws ts = (toBs X).take ts.length) ∧ Shut (KI w wr vv ts)) (fun _ i _ => n - (intOf i).toNat)
  case atStart => exact ⟨[], _, rfl, rfl, by simp, ⟨rfl⟩, ⟨KI.start w (World.ownsRow_nil _ _ _ _) (Below.refl _ _)⟩⟩
  case round =>
    obtain ⟨ts, v, rfl, rfl, hk, hrw, hbi⟩ := hrel
    obtain ⟨wo, rfl⟩ : ∃ wo, wo = wr := ⟨_, rfl⟩
    obtain ⟨i, hie⟩ : ∃ i, i = ts.length := ⟨_, rfl⟩
    have HI : Hid (i = ts.length) := hie
    rw [← hie] at hk ⊢
    clear hie
    by_cases hlt : i < n
    · have hls : i < ss.length := by have := HN.out.1; omega
      have hso := hbi.out.bel.size
      obtain ⟨b, off, rfl, lb, hcell⟩ := (HM.out.below hbi.out.bel).at (by omega)
      have d1 := hcell i hls
      have hrr := ((HM.out.below hbi.out.bel).2 ss[i] (List.getElem_mem hls)).crow
      have hmem : ss[i].row ∈ X := by rw [← HX.out]; exact List.mem_map.2 ⟨ss[i], List.getElem_mem hls, rfl⟩
      have hne := HE.out _ hmem
      have hget : X[i]'(by have := HN.out.2; omega) = ss[i].row := by
        have := rws_get ss i hls
        simp only [HX.out] at this
        exact this
      unfold srv at d1
      obtain ⟨row, hrow⟩ : ∃ row, row = ss[i].row := ⟨_, rfl⟩
      rw [← hrow] at d1 hrr hne hget
      generalize ss[i].loc = loc at *
      generalize ss[i].cap = cp at *
      have HST := Shut.mk (show (toBs X).take (i + 1) = (toBs X).take i ++ [toB row] by
        have hi2 : i < (toBs X).length := by unfold toBs; rw [List.length_map]; have := HN.out.2; omega
        rw [List.take_succ_eq_append_getElem hi2]
        simp only [toBs, List.getElem_map, hget])
      obtain ⟨m, hm⟩ : ∃ m, m = row.length := ⟨_, rfl⟩
      have HMR : Hid (m = row.length) := hm
      rw [← hm] at d1 hne
      obtain ⟨hne1, hm1⟩ := hne
      have hm0 : 0 < m := by rw [hm]; exact List.length_pos_iff.2 hne1
      have HR := Shut.mk hrr
      have HNE : Hid (row ≠ []) := hne1
      have k0 : (0 : Int) ≤ (i : Int) := by omega
      have k1 : (i : Int) < (n : Int) := by omega
      clear hm hrow hcell hmem hrr hget hne1
      go_wp2_with fail
      go_loopw [6, 17] (fun rv kk wq => ∃ (k : Nat) (rr : Value), rr = rv ∧ kk = .int .i64 k ∧ k ≤ m ∧ Shut (wq.ownsRow wo.heap.size 71 1 rr k (ucs (toB (row.take k)))) ∧ Shut (Below wo.heap.size wo wq)) (fun _ kk _ => m - (intOf kk).toNat)
      case atStart => exact ⟨0, _, rfl, rfl, by omega, ⟨World.ownsRow_nil _ _ _ _⟩, ⟨Below.refl _ _⟩⟩
      case round =>
        obtain ⟨k, rr, rfl, rfl, hkm, hown, hbq⟩ := hrel
        obtain ⟨wi, rfl⟩ : ∃ wi, wi = wr := ⟨_, rfl⟩
        by_cases hkl : k < m
        · have hkr : k < row.length := by have := HMR.out; omega
          have hkl' : (k : Int) < (m : Int) := by omega
          have kk0 : (0 : Int) ≤ (k : Int) := by omega
          obtain ⟨b', o', rfl, lb', hc'⟩ := crow_int (HR.out.stays hbq.out) (by omega)
          have d2 := hc' k hkr
          have hst : ucs (toB (row.take (k + 1))) = ucs (toB (row.take k)) ++ [.int .u8 (row.getD k 0 % 256)] := by
            have e : row[k] = row.getD k 0 := by simp [List.getD, hkr]
            rw [List.take_succ_eq_append_getElem hkr, e]
            simp [toB, ucs, u8v, g8_nat]
          generalize row.getD k 0 = x at *
          have HS2 := Shut.mk hst
          have hown3 := hown.out
          have hs3 := hbq.out.size
          clear hst hc' hown
          go_wp2_with (at_builtin; refine wpList_append_own _ rfl _ _ 82 rfl wo.heap.size 71 i1 (.int .u8 0) 1 1 Try.underlying82 hi1 hy0 hy1 hy2 rfl (by decide) _ _ _ rfl (hown3.alloc _) ⟨wi.heap.size, 0, none⟩ 1 1 [.int .u8 (x % 256)] rfl rfl (cell_one_new _ _ _) ?c2 ?c3 ?c4 ?c5 ?_)
          case c2 => first | rfl | (intro u hu; simp at hu; subst hu; rfl)
          case c3 => unfold maxLen; omega
          case c4 => omega
          case c5 => first | omega | (simp; omega)
          intro v' w4 hown' hgrow _
          rw [← HS2.out] at hown'
          have Q1 := Shut.mk hown'
          have Q2 := Shut.mk ((hbq.out.alloc hs3 (.cells #[.int .u8 (x % 256)] 71)).grown hgrow (by simp; omega) (fun j hj => (hown3.lt j hj).1))
          clear hown' hgrow hown3 hbq
          go_wp2_with fail
          go_roundw
          case rel => exact ⟨k + 1, v', rfl, by go_num, by omega, Q1, Q2⟩
          case measure => simp [intOf]; omega
        · have e : k = m := by omega
          have hkl' : ¬ (k : Int) < (m : Int) := by omega
          have hown2 := hown.out
          rw [List.take_of_length_le (by have := HMR.out; omega)] at hown2
          obtain ⟨gr, cr, rfl, hcr⟩ := own_at hown2 (by omega)
          have hgr := hown2.lt gr rfl
          have HROW := Shut.mk (own_wcells hown2)
          have HBI := Shut.mk (hbi.out.newrow hbq.out hgr.1)
          have hsi : wo.heap.size ≤ wi.heap.size := hbq.out.size
          have hgr1 := hgr.1
          have hown := HBI.out.1.own
          clear hown2 hbq hbi hgr
          rw [e] at *
          clear e
          go_wp2_with (at_builtin; refine wpList_append_own _ rfl _ _ 67 rfl w.heap.size 82 i0 (.slice none 0 0) 1 24 Try.underlying67 hi0 hz0 hz1 hz2 rfl (by decide) _ _ _ rfl (hown.alloc _) ⟨wi.heap.size, 0, none⟩ 1 1 [.slice (some ⟨gr, 0, none⟩) m cr] rfl rfl (cell_one_new _ _ _) ?c2 ?c3 ?c4 ?c5 ?_)
          case c2 => first | rfl | (intro u hu; simp at hu; subst hu; rfl)
          case c3 => unfold maxLen; have := HI.out; omega
          case c4 => have := HI.out; omega
          case c5 => first | omega | (simp; omega)
          intro v' w6 hown' hgrow _
          have hlen : (toB row).length = m := by rw [toB_len, HMR.out]
          have hap := HBI.out.1.append (cap := cr) (by omega) HROW.out (toB_ne HNE.out) (by rw [hlen]; exact hcr) HBI.out.2.1 HBI.out.2.2 (by rw [hlen]; exact hown') hgrow
          have HAP := Shut.mk hap
          have HR2 : Shut (kws (ts ++ [KS.mk (some ⟨gr, 0, none⟩) (toB row) cr]) = (toBs X).take (i + 1)) := ⟨by rw [kws_snoc, hrw.out, HST.out, HI.out]⟩
          clear hap hown' hgrow hown HBI HROW hrw hlen
          go_wp2_with fail
          go_roundw
          case rel => exact ⟨_, v', rfl, by rw [List.length_append, List.length_singleton, ← HI.out]; go_num, by rw [List.length_append, List.length_singleton, ← HI.out]; omega, ⟨by rw [List.length_append, List.length_singleton, ← HI.out]; exact HR2.out⟩, HAP⟩
          case measure => simp [intOf]; omega
    · have e : i = n := by omega
      have hlt' : ¬ (i : Int) < (n : Int) := by omega
      have HF := Shut.mk (hbi.out.fin (X := toBs X) (by
        rw [hrw.out, List.take_of_length_le (by unfold toBs; rw [List.length_map]; have := HN.out.2; have := HI.out; omega)]))
      have HB := Shut.mk hbi.out.bel
      clear e hbi hrw
      go_wp2_with fail
      go_ret
      exact ⟨v, rfl, HF.out, HB.out⟩
end Go.Proofs.Ytdlgailodhlbmaa
/- PrE: The program's own ones. -/
namespace Go.Proofs.Ytdlgailodhlbmaa
open Go.RowKit
open W (B8)
attribute [local go_sem ↓] Go.wp_at_zero Go.wp_at_succ
attribute [local irreducible] W.gm W.xt W.gp W.gi

def oneU (t : B8) (n i : Nat) : List B8 := (List.replicate n 0#8).set i t
def onesU (t : B8) (n : Nat) : List (List B8) := (List.range n).map (oneU t n)
theorem oneU_len (t : B8) (n i : Nat) : (oneU t n i).length = n := by simp [oneU]
theorem made_bytes {wm : World} {B n g : Nat} (hownm : wm.ownsRow B 71 1 (.slice (some ⟨g, 0, none⟩) n n) n (madeCells #[Value.int .u8 0] n).toList) : WCells wm g (ucs (List.replicate n 0#8)) := by
  have h := own_wcells hownm
  have e : (madeCells #[Value.int .u8 0] n).toList = ucs (List.replicate n 0#8) := by rw [toList_madeCells_one]; simp [ucs, u8v]
  rw [e] at h
  exact h
set_option maxRecDepth 100000 in
set_option maxHeartbeats 2000000 in
theorem implOnes (t : B8) (n : Nat) (w : World) (hn1 : 1 ≤ n) (hn8 : n ≤ 8) : Calls Try.prog 67 #[.int .i64 (n : Int), .int .u8 (t.toNat : Int)] w fun e w' => KPost (onesU t n) w e w' := by
  obtain ⟨i0, hi0, hz0, hz1, hz2⟩ := info_parts infoRowB
  obtain ⟨i1, hi1, hy0, hy1, hy2⟩ := info_parts infoB
  go_enter Try.func67, Try.ntmps67
  go_wp2_with fail
  go_loopw [5, 9] (fun v i wr => ∃ (ts : List KS) (vv : Value), vv = v ∧ i = .int .i64 (ts.length : Nat) ∧ ts.length ≤ n ∧ Shut (kws ts = (List.range ts.length).map (oneU t n)) ∧ Shut (KI w wr vv ts)) (fun _ i _ => n - (intOf i).toNat)
  case atStart => exact ⟨[], _, rfl, rfl, by simp, ⟨rfl⟩, ⟨KI.start w (World.ownsRow_nil _ _ _ _) (Below.refl _ _)⟩⟩
  case round =>
    obtain ⟨ts, v, rfl, rfl, hk, hr, hbi⟩ := hrel
    obtain ⟨w1, rfl⟩ : ∃ w1, w1 = wr := ⟨_, rfl⟩
    by_cases hlt : ts.length < n
    · have hlt' : (ts.length : Int) < (n : Int) := by omega
      have k0 : (0 : Int) ≤ (ts.length : Int) := by omega
      have hsz := hbi.out.bel.size
      go_wp2_with (at_make; refine wpList_make_full _ rfl _ _ 82 rfl w1.heap.size 71 i1 _ 1 Try.underlying82 hi1 hy0 hy1 .i64 .i64 _ _ n rfl rfl (by omega) (by omega) ?b2 ?b3 ?b4 ?_)
      case b2 => rw [hy2]; omega
      case b3 => unfold maxLen; omega
      case b4 => omega
      intro wm hownm hgrm
      have hbm : Below w1.heap.size w1 wm := (Below.refl _ _).grown hgrm (Nat.le_refl _) (fun j hj => by simp at hj)
      have hrow : WCells wm w1.heap.size (ucs (List.replicate n 0#8)) := made_bytes hownm
      obtain ⟨c0, z0⟩ := hrow.2 ts.length _ (ucs_get _ ts.length (by simp; exact hlt))
      have hset := hrow.set ts.length (.int .u8 (t.toNat : Int)) (by rw [ucs_len]; simp; exact hlt)
      rw [ucs_set, show (List.replicate n 0#8).set ts.length t = oneU t n ts.length from rfl] at hset
      have hbi1 := hbi.out.below hbm
      have hot : KI w (wm.setCell ⟨w1.heap.size, ts.length, none⟩ (.int .u8 (t.toNat : Int))) v ts := hbi1.other (gb_set' _ _ _ _) (Nat.le_refl w1.heap.size) (fun q hq => (hbi.out.own.lt q hq).2) (fun s hs b e => by obtain ⟨b', e', _, q, _⟩ := hbi.out.rows s hs; have : b' = b := congrArg Addr.block (Option.some.inj (e'.symm.trans e)); have := q.1; omega) hsz hbi1.bel.size
      have HROW := Shut.mk hset
      have HBI := Shut.mk hot
      have HNEW := Shut.mk (hbi.out.newrow (Below.refl _ _) (Nat.le_refl w1.heap.size)).2
      clear hset hot hrow hownm hgrm hbi hbi1
      go_upto_region 7 with fail
      obtain ⟨W2, hW2⟩ : ∃ W2, W2 = wm.setCell ⟨w1.heap.size, ts.length, none⟩ (.int .u8 (t.toNat : Int)) := ⟨_, rfl⟩
      rw [← hW2]
      rw [← hW2] at HROW HBI
      have hs2 : w.heap.size ≤ W2.heap.size := HBI.out.bel.size
      have hown := HBI.out.own
      clear hW2 c0 z0 hbm
      go_wp2_with (at_builtin; refine wpList_append_own _ rfl _ _ 67 rfl w.heap.size 82 i0 (.slice none 0 0) 1 24 Try.underlying67 hi0 hz0 hz1 hz2 rfl (by decide) _ _ _ rfl (hown.alloc _) ⟨W2.heap.size, 0, none⟩ 1 1 [.slice (some ⟨w1.heap.size, 0, none⟩) n n] rfl rfl (cell_one_new _ _ _) ?c2 ?c3 ?c4 ?c5 ?_)
      case c2 => first | rfl | (intro u hu; simp at hu; subst hu; rfl)
      case c3 => unfold maxLen; omega
      case c4 => omega
      case c5 => first | omega | (simp; omega)
      · intro v' w6 hown' hgrow _
        have hne : oneU t n ts.length ≠ [] := fun e => by have := congrArg List.length e; rw [oneU_len] at this; simp at this; omega
        have hap := HBI.out.append (cap := n) hsz HROW.out hne (by rw [oneU_len]; exact Nat.le_refl _) HNEW.out.1 HNEW.out.2 (by rw [oneU_len]; exact hown') hgrow
        have HAP := Shut.mk hap
        have HR : Shut (kws (ts ++ [KS.mk (some ⟨w1.heap.size, 0, none⟩) (oneU t n ts.length) n]) = (List.range (ts.length + 1)).map (oneU t n)) := ⟨by rw [kws_snoc, hr.out, List.range_succ, List.map_append]; rfl⟩
        clear hap hown' hgrow hown HBI HROW HNEW hr
        go_wp2_with fail
        go_roundw
        case rel => exact ⟨_, v', rfl, by rw [List.length_append, List.length_singleton]; go_num, by rw [List.length_append, List.length_singleton]; omega, ⟨by rw [List.length_append, List.length_singleton]; exact HR.out⟩, HAP⟩
        case measure => simp [intOf]; omega
    · have e : ts.length = n := by omega
      have hlt' : ¬ (ts.length : Int) < (n : Int) := by omega
      have HF := Shut.mk (hbi.out.fin (X := onesU t n) (by rw [hr.out, e]; rfl))
      have HB := Shut.mk hbi.out.bel
      clear hbi hr e
      go_wp2_with fail
      go_ret
      exact ⟨v, rfl, HF.out, HB.out⟩
end Go.Proofs.Ytdlgailodhlbmaa
/- PrB: The program's own addTimes: a row, so many times, is added to another one, in place. -/
namespace Go.Proofs.Ytdlgailodhlbmaa
open Go.RowKit
open W (B8)
attribute [local go_sem ↓] Go.wp_at_zero Go.wp_at_succ
attribute [local irreducible] W.gm W.xt W.gp W.gi

theorem gb_drew {w w' : World} {r : Option Nat} (h : w.grownBy w' r) : w.grownBy w'.drew r := by
  have hb := Below.drew (Below.refl w'.heap.size w')
  exact ⟨hb.os.trans h.os, hb.tape.trans h.tape, hb.output.trans h.output, Nat.le_trans h.size hb.size, fun k hk hr => (hb.block k (Nat.lt_of_lt_of_le hk h.size)).trans (h.block k hk hr)⟩
/-- A row of a sum that is under way: the first k numbers are there. -/
def plusK (t : B8) (xs ys : List B8) (k : Nat) : List B8 := (List.range xs.length).map fun c => if c < k then xs.getD c 0#8 ^^^ W.gm t (ys.getD c 0#8) else xs.getD c 0#8
def plusU (t : B8) (xs ys : List B8) : List B8 := plusK t xs ys xs.length
theorem plusK_len (t : B8) (xs ys : List B8) (k : Nat) : (plusK t xs ys k).length = xs.length := by simp [plusK]
theorem plusU_len (t : B8) (xs ys : List B8) : (plusU t xs ys).length = xs.length := plusK_len _ _ _ _
theorem plusK_0 (t : B8) (xs ys : List B8) : plusK t xs ys 0 = xs := by
  apply List.ext_getElem (by simp [plusK])
  intro i h1 h2
  simp [plusK, List.getD, h2]
theorem plusK_at {t : B8} {xs ys : List B8} {k c : Nat} (h : c < xs.length) : (plusK t xs ys k).getD c 0#8 = if c < k then xs.getD c 0#8 ^^^ W.gm t (ys.getD c 0#8) else xs.getD c 0#8 := by
  unfold plusK
  rw [List.getD_eq_getElem?_getD, List.getElem?_map, List.getElem?_range h]; rfl
theorem plusU_at {t : B8} {xs ys : List B8} {c : Nat} (h : c < xs.length) : (plusU t xs ys).getD c 0#8 = xs.getD c 0#8 ^^^ W.gm t (ys.getD c 0#8) := by
  unfold plusU; rw [plusK_at h, if_pos h]
theorem plusK_set {t : B8} {xs ys : List B8} {k : Nat} (_ : k < xs.length) : (plusK t xs ys k).set k (xs.getD k 0#8 ^^^ W.gm t (ys.getD k 0#8)) = plusK t xs ys (k + 1) := by
  apply List.ext_getElem (by simp [plusK])
  intro c h1 h2
  simp only [plusK, List.getElem_set, List.getElem_map, List.getElem_range]
  by_cases e : k = c
  · subst e; rw [if_pos rfl, if_pos (by omega)]
  · rw [if_neg e]
    by_cases h : c < k
    · rw [if_pos h, if_pos (by omega)]
    · rw [if_neg h, if_neg (by omega)]
def AddPost (t : B8) (xs ys : List B8) (b : Nat) (w : World) (e : Ending) (w' : World) : Prop := (∃ v, e = .returned v) ∧ WCells w' b (ucs (plusU t xs ys)) ∧ w.grownBy w' (some b)
set_option maxRecDepth 100000 in
set_option maxHeartbeats 2000000 in
theorem implAddTimes (t : B8) (xs ys : List B8) (b cs c o cr n : Nat) (w : World) (hs : WCells w b (ucs xs)) (hr : ∀ j, j < n → w.cell? ⟨c, o + j, none⟩ = some (.int .u8 ((ys.getD j 0#8).toNat : Int))) (hc : c < w.heap.size) (hne : c ≠ b) (hx : xs.length = n) (hl : n ≤ 1000) :
    Calls Try.prog 86 #[.slice (some ⟨b, 0, none⟩) n cs, .int .u8 (t.toNat : Int), .slice (some ⟨c, o, none⟩) n cr] w fun e w' => AddPost t xs ys b w e w' := by
  have HS := Shut.mk hs
  have HR := Shut.mk hr
  have HX : Hid (xs.length = n) := hx
  clear hs hr hx
  go_enter Try.func86, Try.ntmps86
  go_wp2_with fail
  go_loopw [9] (fun i wr => ∃ k : Nat, i = .int .i64 k ∧ k ≤ n ∧ Shut (WCells wr b (ucs (plusK t xs ys k))) ∧ Shut (w.grownBy wr (some b))) (fun i _ => n - (intOf i).toNat)
  case atStart => exact ⟨0, rfl, Nat.zero_le _, ⟨by rw [plusK_0]; exact HS.out⟩, ⟨⟨rfl, rfl, rfl, Nat.le_refl _, fun _ _ _ => rfl⟩⟩⟩
  case round =>
    obtain ⟨k, rfl, hk, hw, hg⟩ := hrel
    by_cases hlt : k < n
    · have k0 : (0 : Int) ≤ (k : Int) := by omega
      have k1 : (k : Int) < (n : Int) := by omega
      have hkx : k < xs.length := by have := HX.out; omega
      have hat := plusK_at (t := t) (xs := xs) (ys := ys) (k := k) hkx
      rw [if_neg (Nat.lt_irrefl k)] at hat
      obtain ⟨d0, z0⟩ := hw.out.2 k _ (ucs_get _ k (by rw [plusK_len]; exact hkx))
      rw [hat] at d0
      have d1 : wr.cell? ⟨c, o + k, none⟩ = some (.int .u8 ((ys.getD k 0#8).toNat : Int)) := by
        rw [← HR.out k hlt]
        exact World.cell?_of_block (a := ⟨c, o + k, none⟩) (hg.out.block c hc (by intro e; cases e; exact hne rfl))
      have hset := hw.out.set k (.int .u8 ((xs.getD k 0#8 ^^^ W.gm t (ys.getD k 0#8)).toNat : Int)) (by rw [ucs_len, plusK_len]; exact hkx)
      rw [ucs_set, plusK_set hkx] at hset
      have ht := implTimes t (ys.getD k 0#8)
      have hp := implPlus (xs.getD k 0#8) (W.gm t (ys.getD k 0#8))
      generalize xs.getD k 0#8 = x at *
      generalize ys.getD k 0#8 = y at *
      generalize W.gm t y = m at *
      generalize x ^^^ m = z at *
      have HW2 := Shut.mk hset
      have HG2 := Shut.mk (gb_two' hg.out (gb_set' wr b k (.int .u8 (z.toNat : Int))))
      have HT := Shut.mk ht
      have HP := Shut.mk hp
      clear hset hw hg hat ht hp
      go_wp2_with fail
      go_region_with (first | (go_at_call 78; refine (HT.out _).mono ?_; rintro e w9 ⟨rfl, rfl⟩) | (go_at_call 77; refine (HP.out _).mono ?_; rintro e w10 ⟨rfl, rfl⟩))
      all_goals go_wp2_with fail
      all_goals exact ⟨⟨k + 1, by go_num, by omega, ⟨HW2.out.drew⟩, ⟨gb_drew HG2.out⟩⟩, by simp [intOf]; omega⟩
    · have e : k = n := by omega
      have hlt' : ¬ (k : Int) < (n : Int) := by omega
      have HF : Shut (WCells wr b (ucs (plusU t xs ys))) := by unfold plusU; rw [HX.out, ← e]; exact hw
      clear e
      go_wp2_with fail
      go_returns
      exact ⟨⟨_, rfl⟩, HF.out, hg.out⟩
end Go.Proofs.Ytdlgailodhlbmaa
/- PrF: The program's own products of matrices of bytes. -/
namespace Go.Proofs.Ytdlgailodhlbmaa
open Go.RowKit
open W (B8)
attribute [local go_sem ↓] Go.wp_at_zero Go.wp_at_succ
attribute [local irreducible] W.gm W.xt W.gp W.gi W.xs

/-- A matrix of bytes that is read: its rows lie somewhere. -/
def KAt (w : World) (b off : Nat) (K : List (List B8)) (m : Nat) : Prop := b < w.heap.size ∧ ∀ i, i < K.length → ∃ b' o' cp, b' < w.heap.size ∧ w.cell? ⟨b, off + i, none⟩ = some (.slice (some ⟨b', o', none⟩) m cp) ∧ ∀ j, j < m → w.cell? ⟨b', o' + j, none⟩ = some (.int .u8 (((K.getD i []).getD j 0#8).toNat : Int))
theorem KAt.below {w w' : World} {b off m : Nat} {K : List (List B8)} (h : KAt w b off K m) (hb : Below w.heap.size w w') : KAt w' b off K m := by
  have hs := hb.size
  refine ⟨by have := h.1; omega, fun i hi => ?_⟩
  obtain ⟨b', o', cp, h1, h2, h3⟩ := h.2 i hi
  exact ⟨b', o', cp, by omega, (hb.cell (p := ⟨b, off + i, none⟩) h.1).trans h2, fun j hj => (hb.cell (p := ⟨b', o' + j, none⟩) h1).trans (h3 j hj)⟩
theorem KSee.kat {w : World} {v : Value} {K : List (List B8)} {lo hi m : Nat} (h : KSee w v K lo hi) (hK : 0 < K.length) (hm : ∀ r ∈ K, r.length = m) (h0 : 0 < m) : ∃ b off cap, v = .slice (some ⟨b, off, none⟩) K.length cap ∧ KAt w b off K m := by
  obtain ⟨a, cap, ss, rfl, hr, hk⟩ := h
  have hl : ss.length = K.length := by rw [← hr, kws_len]
  obtain ⟨b, off, rfl, lb, hc⟩ := hk.at (by omega)
  refine ⟨b, off, cap, by rw [hl], lb, fun i hi => ?_⟩
  have hi' : i < ss.length := by omega
  have hrow : ss[i].row = K.getD i [] := by
    have e1 := kws_get ss i hi'
    rw [← e1]
    simp only [hr]
    simp [List.getD, hi]
  have hmem : ss[i].row ∈ K := by rw [← hr]; exact List.mem_map.2 ⟨ss[i], List.getElem_mem hi', rfl⟩
  have hlen := hm _ hmem
  obtain ⟨b', o', e, lb', hc'⟩ := crow_byte (hk.2 ss[i] (List.getElem_mem hi')).crow (by omega)
  have d := hc i hi'
  unfold ksv at d
  rw [e, hlen] at d
  exact ⟨b', o', ss[i].cap, lb', d, fun j hj => by rw [← hrow]; exact hc' j (by omega)⟩
/-- A row of a product that is under way. -/
def accU (q : Nat) (r : List B8) (K : List (List B8)) (j : Nat) : List B8 := (List.range q).map fun c => W.xs j fun l => W.gm (r.getD l 0#8) ((K.getD l []).getD c 0#8)
theorem accU_len (q : Nat) (r : List B8) (K : List (List B8)) (j : Nat) : (accU q r K j).length = q := by simp [accU]
theorem accU_0 (q : Nat) (r : List B8) (K : List (List B8)) : accU q r K 0 = List.replicate q 0#8 := by
  apply List.ext_getElem (by simp [accU])
  intro i h1 h2
  simp only [accU, List.getElem_map, List.getElem_replicate]
  exact W.xs_0 _
theorem accU_at {q : Nat} {r : List B8} {K : List (List B8)} {j c : Nat} (h : c < q) : (accU q r K j).getD c 0#8 = W.xs j fun l => W.gm (r.getD l 0#8) ((K.getD l []).getD c 0#8) := by
  unfold accU
  rw [List.getD_eq_getElem?_getD, List.getElem?_map, List.getElem?_range h]; rfl
theorem accU_next (q : Nat) (r : List B8) (K : List (List B8)) (j : Nat) : plusU (r.getD j 0#8) (accU q r K j) (K.getD j []) = accU q r K (j + 1) := by
  apply List.ext_getElem (by rw [plusU_len, accU_len, accU_len])
  intro c h1 h2
  have hc : c < q := by rw [accU_len] at h2; exact h2
  have a1 : (plusU (r.getD j 0#8) (accU q r K j) (K.getD j [])).getD c 0#8 = (plusU (r.getD j 0#8) (accU q r K j) (K.getD j []))[c] := by rw [List.getD_eq_getElem?_getD, List.getElem?_eq_getElem h1]; rfl
  have a2 : (accU q r K (j + 1)).getD c 0#8 = (accU q r K (j + 1))[c] := by rw [List.getD_eq_getElem?_getD, List.getElem?_eq_getElem h2]; rfl
  rw [← a1, ← a2, plusU_at (by rw [accU_len]; exact hc), accU_at hc, accU_at hc, W.xs_succ]
def AddPost' (z : List B8) (b : Nat) (w : World) (e : Ending) (w' : World) : Prop := (∃ v, e = .returned v) ∧ WCells w' b (ucs z) ∧ w.grownBy w' (some b)
def mulU (p q : Nat) (K L : List (List B8)) : List (List B8) := K.map fun r => accU q r L p
set_option maxRecDepth 100000 in
set_option maxHeartbeats 2000000 in
theorem implMTimes (K L : List (List B8)) (b1 o1 c1 b2 o2 c2 n p q : Nat) (w : World) (h1 : KAt w b1 o1 K p) (h2 : KAt w b2 o2 L q) (hK : K.length = n) (hL : L.length = p) (hn : n ≤ 8) (hp1 : 1 ≤ p) (hp8 : p ≤ 8) (hq1 : 1 ≤ q) (hq8 : q ≤ 8) :
    Calls Try.prog 102 #[.slice (some ⟨b1, o1, none⟩) n c1, .slice (some ⟨b2, o2, none⟩) p c2] w fun e w' => KPost (mulU p q K L) w e w' := by
  obtain ⟨i0, hi0, hz0, hz1, hz2⟩ := info_parts infoRowB
  obtain ⟨i1, hi1, hy0, hy1, hy2⟩ := info_parts infoB
  have H1 := Shut.mk h1
  have H2 := Shut.mk h2
  have HK : Hid (K.length = n ∧ L.length = p) := ⟨hK, hL⟩
  clear h1 h2 hK hL
  go_enter Try.func102, Try.ntmps102
  go_wp2_with fail
  go_loopw [5, 13] (fun v i wr => ∃ (ts : List KS) (vv : Value), vv = v ∧ i = .int .i64 (ts.length : Nat) ∧ ts.length ≤ n ∧ Shut (kws ts = (mulU p q K L).take ts.length) ∧ Shut (KI w wr vv ts)) (fun _ i _ => n - (intOf i).toNat)
  case atStart => exact ⟨[], _, rfl, rfl, by simp, ⟨rfl⟩, ⟨KI.start w (World.ownsRow_nil _ _ _ _) (Below.refl _ _)⟩⟩
  case round =>
    obtain ⟨ts, v, rfl, rfl, hk, hrw, hbi⟩ := hrel
    obtain ⟨wo, rfl⟩ : ∃ wo, wo = wr := ⟨_, rfl⟩
    obtain ⟨i, hie⟩ : ∃ i, i = ts.length := ⟨_, rfl⟩
    have HI : Hid (i = ts.length) := hie
    rw [← hie] at hk ⊢
    clear hie
    by_cases hlt : i < n
    · have hlt' : (i : Int) < (n : Int) := by omega
      have k0 : (0 : Int) ≤ (i : Int) := by omega
      have hsz := hbi.out.bel.size
      have hbw := hbi.out.bel
      obtain ⟨lb1, q1⟩ := H1.out.below hbw
      obtain ⟨lb2, q2⟩ := H2.out.below hbw
      obtain ⟨b1', o1', cp1, l1', d1, e1⟩ := q1 i (by have := HK.out.1; omega)
      obtain ⟨b20, o20, cp20, l20, d20, _⟩ := q2 0 (by have := HK.out.2; omega)
      rw [Nat.add_zero] at d20
      have p0 : (0 : Int) < (p : Int) := by omega
      have HE1 := Shut.mk e1
      have HQ2 := Shut.mk (H2.out.below hbw)
      have HST := Shut.mk (show (mulU p q K L).take (i + 1) = (mulU p q K L).take i ++ [accU q (K.getD i []) L p] by
        have hi2 : i < (mulU p q K L).length := by unfold mulU; rw [List.length_map]; have := HK.out.1; omega
        have hi3 : i < K.length := by have := HK.out.1; omega
        rw [List.take_succ_eq_append_getElem hi2]
        simp [mulU, List.getD, hi3])
      obtain ⟨r, hr⟩ : ∃ r, r = K.getD i [] := ⟨_, rfl⟩
      rw [← hr] at HE1 HST
      clear q1 q2 e1 hbw hr
      go_wp2_with (at_make; refine wpList_make_full _ rfl _ _ 82 rfl wo.heap.size 71 i1 _ 1 Try.underlying82 hi1 hy0 hy1 .i64 .i64 _ _ q rfl rfl (by omega) (by omega) ?b2 ?b3 ?b4 ?_)
      case b2 => rw [hy2]; omega
      case b3 => unfold maxLen; omega
      case b4 => omega
      intro wm hownm hgrm
      have HBM := Shut.mk (show Below wo.heap.size wo wm from (Below.refl _ _).grown hgrm (Nat.le_refl _) (fun j hj => by simp at hj))
      have HROW := Shut.mk (made_bytes hownm)
      clear hownm hgrm
      go_wp2_with fail
      go_loopw [24] (fun jj wq => ∃ (j : Nat), jj = .int .i64 j ∧ j ≤ p ∧ Shut (WCells wq wo.heap.size (ucs (accU q r L j))) ∧ Shut (Below wo.heap.size wo wq)) (fun jj _ => p - (intOf jj).toNat)
      case atStart => exact ⟨0, rfl, by omega, ⟨by rw [accU_0]; exact HROW.out⟩, HBM⟩
      case round =>
        clear HROW HBM
        obtain ⟨j, rfl, hj, hrow, hbq⟩ := hrel
        obtain ⟨wi, rfl⟩ : ∃ wi, wi = wr := ⟨_, rfl⟩
        by_cases hjp : j < p
        · have hjp' : (j : Int) < (p : Int) := by omega
          have j0 : (0 : Int) ≤ (j : Int) := by omega
          have hsi := hbq.out.size
          have d5 := (hbq.out.cell (p := ⟨b1', o1' + j, none⟩) l1').trans (HE1.out j hjp)
          obtain ⟨b2', o2', cp2, l2', d6, e6⟩ := HQ2.out.2 j (by have := HK.out.2; omega)
          have d7 := (hbq.out.cell (p := ⟨b2, o2 + j, none⟩) lb2).trans d6
          have hcall := implAddTimes (r.getD j 0#8) (accU q r L j) (L.getD j []) wo.heap.size q b2' o2' cp2 q wi hrow.out (fun c hc => (hbq.out.cell (p := ⟨b2', o2' + c, none⟩) l2').trans (e6 c hc)) (by omega) (by omega) (accU_len _ _ _ _) (by omega)
          rw [show AddPost (r.getD j 0#8) (accU q r L j) (L.getD j []) wo.heap.size wi = AddPost' (accU q r L (j + 1)) wo.heap.size wi from by funext e w'; unfold AddPost AddPost'; rw [accU_next]] at hcall
          generalize r.getD j 0#8 = x at d5 hcall
          have HX := Shut.mk hcall
          have HBQ := hbq
          clear hcall e6 d6 hbq
          go_wp2_with fail
          refine HX.out.mono ?_
          rintro e w9 ⟨⟨v9, rfl⟩, hc9, hg9⟩
          have Q1 := Shut.mk hc9
          have Q2 := Shut.mk (HBQ.out.grown hg9 hsi (fun g hg => by cases hg; exact Nat.le_refl _))
          clear hc9 hg9 HBQ HX
          go_wp2_with fail
          go_roundw
          case rel => exact ⟨j + 1, by go_num, by omega, Q1, Q2⟩
          case measure => simp [intOf]; omega
        · have e : j = p := by omega
          have hjp' : ¬ (j : Int) < (p : Int) := by omega
          have HBI := Shut.mk (hbi.out.newrow hbq.out (Nat.le_refl wo.heap.size))
          have hsi : wo.heap.size ≤ wi.heap.size := hbq.out.size
          have hown := HBI.out.1.own
          rw [e] at hrow
          clear hbq hbi e
          go_wp2_with (at_builtin; refine wpList_append_own _ rfl _ _ 67 rfl w.heap.size 82 i0 (.slice none 0 0) 1 24 Try.underlying67 hi0 hz0 hz1 hz2 rfl (by decide) _ _ _ rfl (hown.alloc _) ⟨wi.heap.size, 0, none⟩ 1 1 [.slice (some ⟨wo.heap.size, 0, none⟩) q q] rfl rfl (cell_one_new _ _ _) ?c2 ?c3 ?c4 ?c5 ?_)
          case c2 => first | rfl | (intro u hu; simp at hu; subst hu; rfl)
          case c3 => unfold maxLen; have := HI.out; omega
          case c4 => have := HI.out; omega
          case c5 => first | omega | (simp; omega)
          intro v' w6 hown' hgrow _
          have hne : accU q r L p ≠ [] := fun e => by have := congrArg List.length e; rw [accU_len] at this; simp at this; omega
          have hap := HBI.out.1.append (cap := q) hsz hrow.out hne (by rw [accU_len]; exact Nat.le_refl _) HBI.out.2.1 HBI.out.2.2 (by rw [accU_len]; exact hown') hgrow
          have HAP := Shut.mk hap
          have HR2 : Shut (kws (ts ++ [KS.mk (some ⟨wo.heap.size, 0, none⟩) (accU q r L p) q]) = (mulU p q K L).take (i + 1)) := ⟨by rw [kws_snoc, hrw.out, HST.out, HI.out]⟩
          clear hap hown' hgrow hown HBI hrow hrw hne
          go_wp2_with fail
          go_roundw
          case rel => exact ⟨_, v', rfl, by rw [List.length_append, List.length_singleton, ← HI.out]; go_num, by rw [List.length_append, List.length_singleton, ← HI.out]; omega, ⟨by rw [List.length_append, List.length_singleton, ← HI.out]; exact HR2.out⟩, HAP⟩
          case measure => simp [intOf]; omega
    · have e : i = n := by omega
      have hlt' : ¬ (i : Int) < (n : Int) := by omega
      have HF := Shut.mk (hbi.out.fin (X := mulU p q K L) (by
        rw [hrw.out, List.take_of_length_le (by unfold mulU; rw [List.length_map]; have := HK.out.1; have := HI.out; omega)]))
      have HB := Shut.mk hbi.out.bel
      clear e hbi hrw
      go_wp2_with fail
      go_ret
      exact ⟨v, rfl, HF.out, HB.out⟩
end Go.Proofs.Ytdlgailodhlbmaa
