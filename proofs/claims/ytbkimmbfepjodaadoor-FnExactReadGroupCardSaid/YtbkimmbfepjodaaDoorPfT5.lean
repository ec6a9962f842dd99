/- Texts of ours, laid one behind the other: TMatH, TMatJ, TStrsA, TDecM, TDec, TStrsB, TTvA, TStrV, TBRowM, THexM, TFieldT. -/
import Derived.Test.YtbkimmbfepjodaaDoorPfT4
import Derived.Deep.CutRange
import Derived.Deep.QuietTactic
import Derived.BigQuiet
import Derived.PlainAid
import Derived.Deep.LoopGhost
import Derived.Deep.RegionHeld3
import Derived.Deep.DrawnRows
set_option linter.unusedVariables false
set_option linter.unusedSimpArgs false
/- The walk of the model's InvM. -/
namespace Go.Proofs.YtbkimmbfepjodaaDoorT
set_option maxRecDepth 100000
open Go.RowKit
open W (B8 Mx)
attribute [local go_sem ↓] Go.wp_at_zero Go.wp_at_succ
attribute [local irreducible] W.gm W.xs W.mm W.gi mx

/-- Rows of numbers where they lie. -/
def Rows2 (w : World) (X : List (List Int)) (n b off : Nat) : Prop := b < w.heap.size ∧ ∀ i, i < n → ∃ b' o' cp, w.cell? ⟨b, off + i, none⟩ = some (.slice (some ⟨b', o', none⟩) n cp) ∧ b' < w.heap.size ∧ ∀ j, j < n → w.cell? ⟨b', o' + j, none⟩ = some (.int .i64 ((X.getD i []).getD j 0))
theorem Rows2.below {w w' : World} {X : List (List Int)} {n b off : Nat} (h : Rows2 w X n b off) (hb : Below w.heap.size w w') : Rows2 w' X n b off := ⟨Nat.lt_of_lt_of_le h.1 hb.size, fun i hi => by
  obtain ⟨b', o', cp, e, hl, hc⟩ := h.2 i hi
  exact ⟨b', o', cp, (hb.cell (p := ⟨b, off + i, none⟩) h.1).trans e, Nat.lt_of_lt_of_le hl hb.size, fun j hj => (hb.cell (p := ⟨b', o' + j, none⟩) hl).trans (hc j hj)⟩⟩
/-- What InvM answers. -/
def InvPost (X : List (List Int)) (w : World) (e : Ending) (w' : World) : Prop := ∃ v, e = .returned (.tuple #[v, .bool (invX X).2]) ∧ MAns w' v (invX X).1 w.heap.size w'.heap.size ∧ Below w.heap.size w w'
theorem invPost_no {X : List (List Int)} {w w' : World} {e : Ending} {a : Option Addr} {cap : Nat} (h : invX X = ([], false)) (he : e = .returned (.tuple #[.slice a 0 cap, .bool false])) (hb : Below w.heap.size w w') : InvPost X w e w' := by
  unfold InvPost
  rw [h]
  exact ⟨_, he, MAns.empty _ _ _ _ _, hb⟩
theorem invPost_yes {X Y : List (List Int)} {w w' : World} {e : Ending} {v : Value} (h : IsInv X Y) (he : e = .returned (.tuple #[v, .bool true])) (hv : MAns w' v Y w.heap.size w'.heap.size) (hb : Below w.heap.size w w') : InvPost X w e w' := by
  unfold InvPost
  rw [invX_yes h]
  exact ⟨v, he, hv, hb⟩
theorem own_wider1 {w : World} {B C n sz : Nat} {t : TypeId} {v : Value} {L : List Value} (h : w.ownsRow B t sz v n L) (hC : C ≤ B) : w.ownsRow C t sz v n L := by
  obtain ⟨h1, h | ⟨g, cap, cur, e, hB, rest⟩⟩ := h
  · exact ⟨h1, .inl h⟩
  · exact ⟨h1, .inr ⟨g, cap, cur, e, Nat.le_trans hC hB, rest⟩⟩
theorem own_some {w : World} {B n sz : Nat} {t : TypeId} {v : Value} {L : List Value} (h : w.ownsRow B t sz v n L) (hp : 0 < n) : ∃ g cap, v = .slice (some ⟨g, 0, none⟩) n cap ∧ n ≤ cap := by
  rcases h.2 with ⟨_, h0⟩ | ⟨g, cap, _, rfl, _, _, hc, _⟩
  · omega
  · exact ⟨g, cap, rfl, hc⟩
theorem BI.up {w w1 wr : World} {v : Value} {ts : List SR} (h : BI w1 wr v ts) (hb : Below w.heap.size w w1) : BI w wr v ts :=
  ⟨own_wider1 h.own hb.size, fun s hs => by
    obtain ⟨b, e, q1, q2⟩ := h.rows s hs
    exact ⟨b, e, Nat.le_trans hb.size q1, q2⟩, h.apart, hb.trans (h.bel.mono hb.size)⟩
set_option maxRecDepth 100000 in
set_option maxHeartbeats 8000000 in
theorem invM_walk (X : List (List Int)) (n b1 o1 cap1 : Nat) (w : World) (hX : Sq n X) (hn1 : 1 ≤ n) (hn8 : n ≤ 8) (hR : Rows2 w X n b1 o1) (hok : matOk X = true) (hxl : X.length = n) (hcol : colsOf X = n)
    (hc1 : ∀ W : World, Below w.heap.size w W → Calls Tw.prog 44 #[.slice (some ⟨b1, o1, none⟩) n cap1] W fun e w' => e = .returned (.bool true) ∧ Below W.heap.size W w') :
    Calls Tw.prog 22 #[.slice (some ⟨b1, o1, none⟩) n cap1] w fun e w' => InvPost X w e w' := by
  obtain ⟨i0, hi0, hz0, hz1, hz2⟩ := info_parts infoRow
  obtain ⟨i1, hi1, hy0, hy1, hy2⟩ := info_parts infoIntG
  have HX : Hid (Sq n X ∧ matOk X = true ∧ X.length = n ∧ colsOf X = n) := ⟨hX, hok, hxl, hcol⟩
  have HR : Shut (Rows2 w X n b1 o1) := ⟨hR⟩
  have HC1 : Hid _ := hc1
  have hne : ((n : Int) != (n : Int)) = false := by simp
  have n0 : (0 : Int) < (n : Int) := by omega
  clear hX hok hxl hcol hR hc1
  go_enter Tw.func22, Tw.ntmps22
  go_wp2_with fail
  refine (HC1.out _ (Below.refl _ _)).mono ?_
  rintro e w1 ⟨rfl, hb1⟩
  obtain ⟨br, or, cr, d0', lr, _⟩ := (HR.out.below hb1).2 0 (by omega)
  have d0 : w1.cell? ⟨b1, o1, none⟩ = some (.slice (some ⟨br, or, none⟩) n cr) := d0'
  clear d0'
  have HB1 : Shut (Below w.heap.size w w1) := ⟨hb1⟩
  clear hb1 HC1
  go_wp2_with fail
  go_loopw [5, 6] (fun v i wr => ∃ (ts : List SR) (vv : Value), vv = v ∧ i = .int .i64 (ts.length : Nat) ∧ ts.length ≤ n ∧ Shut (rws ts = X.take ts.length) ∧ Shut (BI w wr vv ts)) (fun _ i _ => n - (intOf i).toNat)
  case atStart => exact ⟨[], _, rfl, rfl, by simp, ⟨rfl⟩, ⟨(BI.start w1 (World.ownsRow_made w1 #[] 0 (Nat.le_refl _) (by decide) rfl) ((Below.refl _ _).alloc (Nat.le_refl _) _)).up HB1.out⟩⟩
  case round =>
    clear d0 HB1
    obtain ⟨ts, v, rfl, rfl, hk, hr, hbi⟩ := hrel
    obtain ⟨wo, rfl⟩ : ∃ wo, wo = wr := ⟨_, rfl⟩
    obtain ⟨i, hie⟩ : ∃ i, i = ts.length := ⟨_, rfl⟩
    have HI : Hid (i = ts.length) := hie
    rw [← hie] at hk ⊢
    clear hie
    by_cases hlt : i < n
    · have hlt' : (i : Int) < (n : Int) := by omega
      have k0 : (0 : Int) ≤ (i : Int) := by omega
      have hsz := hbi.out.bel.size
      obtain ⟨br, or, cr, d0, lr, hnum⟩ := (HR.out.below hbi.out.bel).2 i hlt
      obtain ⟨r, hre⟩ : ∃ r, r = X.getD i [] := ⟨_, rfl⟩
      have HRE : Hid (r = X.getD i [] ∧ r.length = n) := ⟨hre, by rw [hre]; exact (HX.out.1.at hlt).1⟩
      rw [← hre] at hnum
      clear hre
      have HNUM : Shut (∀ j u, (ics (r))[j]? = some u → (wo.alloc (.cells #[] 3)).cell? ((⟨br, or, none⟩ : Addr).add j) = some u) := ⟨fun j u hu => by
        have hj : j < (r).length := by have := (List.getElem?_eq_some_iff.1 hu).1; rw [ics_len] at this; exact this
        rw [ics_get _ j hj] at hu
        cases hu
        have ea : (⟨br, or, none⟩ : Addr).add j = ⟨br, or + j, none⟩ := by simp [Addr.add]
        rw [ea]
        exact (((Below.refl wo.heap.size wo).alloc (Nat.le_refl _) _).cell (p := ⟨br, or + j, none⟩) lr).trans (hnum j (by have := HRE.out.2; omega))⟩
      have l1 : b1 < wo.heap.size := (HR.out.below hbi.out.bel).1
      have hxl : (ics (r)).length = n * 1 := by rw [ics_len, HRE.out.2, Nat.mul_one]
      clear hnum
      go_wp2_with (at_builtin; refine wpList_append_own _ rfl _ _ 52 rfl wo.heap.size 3 i1 (.int .i64 0) 1 8 Tw.underlying52 hi1 hy0 hy1 hy2 rfl (by decide) _ 0 [] rfl (World.ownsRow_made wo #[] 0 (Nat.le_refl _) (by decide) rfl) ⟨br, or, none⟩ n cr (ics (r)) rfl hxl HNUM.out ?c2 ?c3 ?c4 ?c5 ?_)
      case c2 => exact fun u hu => by obtain ⟨y, _, rfl⟩ := List.mem_map.1 hu; rfl
      case c3 => unfold maxLen; omega
      case c4 => omega
      case c5 => simp
      intro v5 w5 hown5 hgrow5 _
      have hown5 : w5.ownsRow wo.heap.size 3 1 v5 n (ics r) := by simpa using hown5
      obtain ⟨g5, cp5, rfl, hcp5⟩ := own_some hown5 (by omega)
      have hb5 : Below wo.heap.size wo w5 := ((Below.refl wo.heap.size wo).alloc (Nat.le_refl _) _).grown hgrow5 (by simp) (fun j hj => by simp [Value.ownBlock] at hj; omega)
      have hg5 := (hown5.lt g5 rfl).1
      have HROW : Shut (WCells w5 g5 (ics (r))) := ⟨own_wcells hown5⟩
      have HNEW : Shut ((∀ q, v.ownBlock = some q → q ≠ g5) ∧ ∀ s ∈ ts, s.loc ≠ some ⟨g5, 0, none⟩) := ⟨fun q hq => by have := (hbi.out.own.lt q hq).2; omega, fun s hs e => by obtain ⟨b', e', _, q, _⟩ := hbi.out.rows s hs; have : b' = g5 := congrArg Addr.block (Option.some.inj (e'.symm.trans e)); have := q.1; omega⟩
      have HBI : Shut (BI w w5 v ts) := ⟨hbi.out.below hb5⟩
      have hs5 : w.heap.size ≤ w5.heap.size := HBI.out.bel.size
      have hown := HBI.out.own
      clear hown5 hgrow5 hb5 hbi HNUM d0 lr l1
      go_wp2_with (at_builtin; refine wpList_append_own _ rfl _ _ 50 rfl w.heap.size 52 i0 (.slice none 0 0) 1 24 Tw.underlying50 hi0 hz0 hz1 hz2 rfl (by decide) _ _ _ rfl (hown.alloc _) ⟨w5.heap.size, 0, none⟩ 1 1 [.slice (some ⟨g5, 0, none⟩) n cp5] rfl rfl (cell_one_new _ _ _) ?c2 ?c3 ?c4 ?c5 ?_)
      case c2 => first | rfl | (intro u hu; simp at hu; subst hu; rfl)
      case c3 => unfold maxLen; have := HI.out; omega
      case c4 => have := HI.out; omega
      case c5 => first | omega | (simp; omega)
      intro v' w6 hown' hgrow _
      have hlen : r.length = n := HRE.out.2
      have hnil : r ≠ [] := fun e => by rw [e] at hlen; simp at hlen; omega
      have hap := HBI.out.append (cap := cp5) (by omega) HROW.out hnil (by rw [hlen]; exact hcp5) HNEW.out.1 HNEW.out.2 (by rw [hlen]; exact hown') hgrow
      have HAP : Shut (BI w w6 v' (ts ++ [SR.mk (some ⟨g5, 0, none⟩) (r) cp5])) := ⟨hap⟩
      have HR2 : Shut (rws (ts ++ [SR.mk (some ⟨g5, 0, none⟩) (r) cp5]) = X.take (i + 1)) := ⟨by
        have hix : i < X.length := by rw [HX.out.2.2.1]; exact hlt
        rw [rws_snoc, hr.out, ← HI.out, List.take_succ_eq_append_getElem hix]
        congr 2
        rw [HRE.out.1]
        simp [List.getD, hix]⟩
      clear hap hown' hgrow hown HBI HROW HNEW hr hlen hnil hxl
      go_wp2_with fail
      go_roundw
      case rel => exact ⟨_, v', rfl, by rw [List.length_append, List.length_singleton, ← HI.out]; go_num, by rw [List.length_append, List.length_singleton, ← HI.out]; omega, ⟨by rw [List.length_append, List.length_singleton, ← HI.out]; exact HR2.out⟩, HAP⟩
      case measure => simp [intOf]; omega
    · have e : i = n := by omega
      have hlt' : ¬ (i : Int) < (n : Int) := by omega
      have hln : ts.length = n := by rw [← HI.out, e]
      have hXr : rws ts = X := by rw [hr.out, hln, ← HX.out.2.2.1, List.take_length]
      obtain ⟨ga, capA, rfl, hcapA⟩ := own_some hbi.out.own (by omega)
      have hbi2 := hbi.out
      rw [hln] at hbi2 ⊢
      have HBI : Shut (BI w wo (.slice (some ⟨ga, 0, none⟩) n capA) ts ∧ ts.length = n ∧ rws ts = X) := ⟨hbi2, hln, hXr⟩
      clear hbi2 hbi hr hXr hln HI hcapA
      go_wp2_with fail
      refine (specOneM (n : Int) _).mono ?_
      rintro e w2 ⟨v2, rfl, hv2, hb2⟩
      obtain ⟨gb, capB, ssB, rfl, hcapB, hrB, hapB, htwo⟩ := two_start HBI.out.1 HBI.out.2.1 (by omega) (by rw [(mx_one hn1 hn8).1]; simp) hb2 hv2
      have HT : Shut (Two w w2 ga gb ts ssB) := ⟨htwo⟩
      have HP : Shut (Pu n 0 (mx X) ts ssB) := ⟨Pu.start HX.out.1 hn1 hn8 HBI.out.2.2 hrB hapB⟩
      clear hv2 hb2 hrB hapB htwo HBI
      go_wp2_with fail
      go_loopw [8] (fun cc wr => ∃ (c : Nat) (ssA ssB : List SR), cc = .int .i64 c ∧ c ≤ n ∧ Shut (Two w wr ga gb ssA ssB) ∧ Shut (Pu n c (mx X) ssA ssB)) (fun cc _ => n - (intOf cc).toNat)
      case atStart => exact ⟨0, ts, ssB, rfl, by omega, HT, HP⟩
      case round =>
        clear HT HP
        obtain ⟨c, ssA, ssB, rfl, hcn, hT, hP⟩ := hrel
        obtain ⟨wc, rfl⟩ : ∃ wc, wc = wr := ⟨_, rfl⟩
        by_cases hlt : c < n
        · have hlt2 : (c : Int) < (n : Int) := by omega
          have c0 : (0 : Int) ≤ (c : Int) := by omega
          go_wp2_with fail
          go_loop [9] (fun pp => ∃ p : Nat, pp = .int .i64 p ∧ c ≤ p ∧ p ≤ n ∧ Shut (∀ q, c ≤ q → q < p → mx (rws ssA) q c = 0#8)) (fun pp => n - (intOf pp).toNat)
          case atStart => exact ⟨c, rfl, by omega, by omega, ⟨fun q h1 h2 => by omega⟩⟩
          case round =>
            obtain ⟨p, rfl, hcp, hpn, hz⟩ := hrel
            by_cases hpl : p < n
            · have hpl2 : (p : Int) < (n : Int) := by omega
              have p0 : (0 : Int) ≤ (p : Int) := by omega
              obtain ⟨bp, cpp, gp⟩ := hT.out.gotA hP.out.sa hpl
              have dp := gp.cell
              have dx := gp.num c hlt
              have lga : ga < wc.heap.size := hT.out.outA.1
              have hzero := hP.out.sa.zero hpl hlt
              obtain ⟨x, hx⟩ : ∃ x, x = ((rws ssA).getD p []).getD c 0 := ⟨_, rfl⟩
              rw [← hx] at dx hzero
              have GP : Shut (RowGot w wc ga gb n ga p bp cpp ssA) := ⟨gp⟩
              clear gp hx
              by_cases hx0 : x = 0
              · have hxb : (x == 0) = true := by rw [hx0]; rfl
                have HZ : Shut (∀ q, c ≤ q → q < p + 1 → mx (rws ssA) q c = 0#8) := ⟨fun q h1 h2 => by
                  by_cases e : q = p
                  · rw [e]; exact hzero.1 hx0
                  · exact hz.out q h1 (by omega)⟩
                clear hx0 hzero hz
                go_wp2_with fail
                go_round
                case rel => exact ⟨p + 1, by go_num, by omega, by omega, HZ⟩
                case measure => simp [intOf]; omega
              · have hxb : (x == 0) = false := by rw [beq_eq_false_iff_ne]; exact hx0
                have hpe : ((p : Int) == (n : Int)) = false := by rw [beq_eq_false_iff_ne]; omega
                have HNZ : Shut (mx (rws ssA) p c ≠ 0#8) := ⟨fun e => hx0 (hzero.2 e)⟩
                obtain ⟨bc, cpc, gc⟩ := hT.out.gotA hP.out.sa hlt
                have dc := gc.cell
                have fp := GP.out.free
                have GC : Shut (RowGot w wc ga gb n ga c bc cpc ssA) := ⟨gc⟩
                clear hx0 hzero hz gc
                go_upto_region 20 with fail
                obtain ⟨w3, hw3⟩ : ∃ w3, w3 = wc.setCell ⟨ga, p, none⟩ (.slice (some ⟨bc, 0, none⟩) n cpc) := ⟨_, rfl⟩
                have T3 : Two w w3 ga gb (ssA.set p (ssA.getD c default)) ssB := by rw [hw3]; exact hT.out.setA GP.out.lt GC.out.val GC.out.row
                have R3 : RowIn w w3 ga gb (ssA.getD p default) := by rw [hw3]; exact GP.out.row.setA p _
                rw [← hw3]
                obtain ⟨q3, z3, f3⟩ := T3.freeA (i := c) (by rw [List.length_set]; exact GC.out.lt)
                have l3 : ga < w3.heap.size := T3.outA.1
                have HT3 : Shut (Two w w3 ga gb (ssA.set p (ssA.getD c default)) ssB ∧ RowIn w w3 ga gb (ssA.getD p default)) := ⟨T3, R3⟩
                clear hw3 T3 R3 dp dc dx fp lga
                go_upto_region 21 with fail
                obtain ⟨w4, hw4⟩ : ∃ w4, w4 = w3.setCell ⟨ga, c, none⟩ (.slice (some ⟨bp, 0, none⟩) n cpp) := ⟨_, rfl⟩
                have T4 : Two w w4 ga gb (swapS p c ssA) ssB := by rw [hw4]; exact HT3.out.1.setA (by rw [List.length_set]; exact GC.out.lt) GP.out.val HT3.out.2
                rw [← hw4]
                obtain ⟨bq, cpq, gq⟩ := T4.gotB hP.out.sb hpl
                obtain ⟨bd, cpd, gd⟩ := T4.gotB hP.out.sb hlt
                have d4 := gq.cell
                have e4 := gd.cell
                have f4 := gq.free
                have l4 : gb < w4.heap.size := T4.outB.1
                have HT4 : Shut (Two w w4 ga gb (swapS p c ssA) ssB) := ⟨T4⟩
                have GQ : Shut (RowGot w w4 ga gb n gb p bq cpq ssB) := ⟨gq⟩
                have GD : Shut (RowGot w w4 ga gb n gb c bd cpd ssB) := ⟨gd⟩
                clear hw4 T4 gq gd z3 f3 l3 HT3
                go_upto_region 23 with fail
                obtain ⟨w5, hw5⟩ : ∃ w5, w5 = w4.setCell ⟨gb, p, none⟩ (.slice (some ⟨bd, 0, none⟩) n cpd) := ⟨_, rfl⟩
                have T5 : Two w w5 ga gb (swapS p c ssA) (ssB.set p (ssB.getD c default)) := by rw [hw5]; exact HT4.out.setB GQ.out.lt GD.out.val GD.out.row
                have R5 : RowIn w w5 ga gb (ssB.getD p default) := by rw [hw5]; exact GQ.out.row.setB p _
                rw [← hw5]
                obtain ⟨q5, z5, f5⟩ := T5.freeB (i := c) (by rw [List.length_set]; exact GD.out.lt)
                have l5 : gb < w5.heap.size := T5.outB.1
                have HT5 : Shut (Two w w5 ga gb (swapS p c ssA) (ssB.set p (ssB.getD c default)) ∧ RowIn w w5 ga gb (ssB.getD p default)) := ⟨T5, R5⟩
                clear hw5 T5 R5 d4 e4 f4 l4
                go_upto_region 24 with fail
                obtain ⟨w6, hw6⟩ : ∃ w6, w6 = w5.setCell ⟨gb, c, none⟩ (.slice (some ⟨bq, 0, none⟩) n cpq) := ⟨_, rfl⟩
                have T6 : Two w w6 ga gb (swapS p c ssA) (swapS p c ssB) := by rw [hw6]; exact HT5.out.1.setB (by rw [List.length_set]; exact GD.out.lt) GQ.out.val HT5.out.2
                rw [← hw6]
                have P6 := hP.out.swap hlt hpl hcp
                have N6 : mx (rws (swapS p c ssA)) c c ≠ 0#8 := by rw [mx_swap_c hP.out.sa hlt hpl]; exact HNZ.out
                clear hw6 HT4 HT5 GQ GD GP GC hP hT HNZ z5 f5 l5
                generalize swapS p c ssA = sA at *
                generalize swapS p c ssB = sB at *
                obtain ⟨bA, cpA, gA⟩ := T6.gotA P6.sa hlt
                have d6 := gA.cell
                have x6 := gA.num c hlt
                have l6 : ga < w6.heap.size := T6.outA.1
                have xe := mx_is (rws sA) c c
                generalize ((rws sA).getD c []).getD c 0 = y at *
                have HINV : Shut (∀ w : World, Calls Tw.prog 43 #[.int .i64 y] w fun e w' => e = .returned (.int .i64 ((W.gi (g8 y)).toNat : Int)) ∧ w' = w) := ⟨specInvG y⟩
                have HY : Shut (g8 y = mx (rws sA) c c ∧ g8 y ≠ 0#8) := ⟨xe.symm, by rw [← xe]; exact N6⟩
                have HT6 : Shut (Two w w6 ga gb sA sB ∧ Pu n c (mx X) sA sB) := ⟨T6, P6⟩
                have GA : Shut (RowGot w w6 ga gb n ga c bA cpA sA) := ⟨gA⟩
                clear T6 P6 N6 gA xe
                go_wp2_with fail
                refine (HINV.out _).mono ?_
                rintro e w7 ⟨rfl, hw7⟩
                obtain rfl : w6 = w7 := hw7.symm
                obtain ⟨s, hs⟩ : ∃ s, s = W.gi (g8 y) := ⟨_, rfl⟩
                have HS : Shut (s = W.gi (g8 y)) := ⟨hs⟩
                rw [← hs]
                clear hs hw7 HINV
                go_wp2_with fail
                refine (times_at GA.out HT6.out.2.sa hlt hn8 s _ (Below.refl _ _)).mono ?_
                rintro e w8 ⟨g8', cp8, rfl, hg8, hr8, hc8, hb8⟩
                have T8 := HT6.out.1.below hb8
                have N8 := row_new HT6.out.1 hg8 hr8 (by rw [timesL_len, (HT6.out.2.sa.at hlt).1]; exact hc8)
                obtain ⟨q8, z8, f8⟩ := T8.freeA (i := c) GA.out.lt
                have l8 : ga < w8.heap.size := T8.outA.1
                have HT8 : Shut (Two w w8 ga gb sA sB ∧ RowIn w w8 ga gb ⟨some ⟨g8', 0, none⟩, timesL s ((rws sA).getD c []), cp8⟩) := ⟨T8, N8⟩
                clear hg8 hr8 hc8 hb8 T8 N8 d6 x6 l6
                go_upto_region 26 with fail
                obtain ⟨w9, hw9⟩ : ∃ w9, w9 = w8.setCell ⟨ga, c, none⟩ (.slice (some ⟨g8', 0, none⟩) n cp8) := ⟨_, rfl⟩
                have T9 : Two w w9 ga gb (sA.set c ⟨some ⟨g8', 0, none⟩, timesL s ((rws sA).getD c []), cp8⟩) sB := by rw [hw9]; exact HT8.out.1.setA GA.out.lt (srv_is g8' n cp8 _ (by rw [timesL_len]; exact (HT6.out.2.sa.at hlt).1)) HT8.out.2
                rw [← hw9]
                obtain ⟨bB, cpB, gB⟩ := T9.gotB HT6.out.2.sb hlt
                have d9 := gB.cell
                have l9 : gb < w9.heap.size := T9.outB.1
                have HT9 : Shut (Two w w9 ga gb (sA.set c ⟨some ⟨g8', 0, none⟩, timesL s ((rws sA).getD c []), cp8⟩) sB) := ⟨T9⟩
                have GB : Shut (RowGot w w9 ga gb n gb c bB cpB sB) := ⟨gB⟩
                clear hw9 T9 gB z8 f8 l8 HT8 GA
                go_wp2_with fail
                refine (times_at GB.out HT6.out.2.sb hlt hn8 s _ (Below.refl _ _)).mono ?_
                rintro e w10 ⟨g10, cp10, rfl, hg10, hr10, hc10, hb10⟩
                have T10 := HT9.out.below hb10
                have N10 := row_new HT9.out hg10 hr10 (by rw [timesL_len, (HT6.out.2.sb.at hlt).1]; exact hc10)
                obtain ⟨q10, z10, f10⟩ := T10.freeB (i := c) GB.out.lt
                have l10 : gb < w10.heap.size := T10.outB.1
                have HT10 : Shut (Two w (w10.setCell ⟨gb, c, none⟩ (.slice (some ⟨g10, 0, none⟩) n cp10)) ga gb (sA.set c ⟨some ⟨g8', 0, none⟩, timesL s ((rws sA).getD c []), cp8⟩) (sB.set c ⟨some ⟨g10, 0, none⟩, timesL s ((rws sB).getD c []), cp10⟩)) := ⟨T10.setB GB.out.lt (srv_is g10 n cp10 _ (by rw [timesL_len]; exact (HT6.out.2.sb.at hlt).1)) N10⟩
                have HP10 : Shut (Pu n c (mx X) (sA.set c ⟨some ⟨g8', 0, none⟩, timesL s ((rws sA).getD c []), cp8⟩) (sB.set c ⟨some ⟨g10, 0, none⟩, timesL s ((rws sB).getD c []), cp10⟩) ∧ ColDone n c 0 (mx (rws (sA.set c ⟨some ⟨g8', 0, none⟩, timesL s ((rws sA).getD c []), cp8⟩)))) := ⟨HT6.out.2.times hlt HY.out.1 HY.out.2 (by rw [HS.out]) (by rw [HS.out]) (HT9.out.newB hg10)⟩
                clear hg10 hr10 hc10 hb10 T10 N10 d9 l9 HT9 GB HT6 HS HY
                generalize sA.set c ⟨some ⟨g8', 0, none⟩, timesL s ((rws sA).getD c []), cp8⟩ = sA at *
                generalize sB.set c ⟨some ⟨g10, 0, none⟩, timesL s ((rws sB).getD c []), cp10⟩ = sB at *
                go_wp2_with fail
                go_loopw [13] (fun ii wr => ∃ (i : Nat) (tA tB : List SR), ii = .int .i64 i ∧ i ≤ n ∧ Shut (Two w wr ga gb tA tB) ∧ Shut (Pu n c (mx X) tA tB ∧ ColDone n c i (mx (rws tA)))) (fun ii _ => n - (intOf ii).toNat)
                case atStart => exact ⟨0, sA, sB, rfl, by omega, HT10, HP10⟩
                case round =>
                  clear HT10 HP10 z10 f10 l10
                  obtain ⟨i, tA, tB, rfl, hin, hT, hP⟩ := hrel
                  obtain ⟨wi, rfl⟩ : ∃ wi, wi = wr := ⟨_, rfl⟩
                  by_cases hil : i < n
                  · have hil2 : (i : Int) < (n : Int) := by omega
                    have i0' : (0 : Int) ≤ (i : Int) := by omega
                    by_cases hic : i = c
                    · have hne2 : ((i : Int) != (c : Int)) = false := by rw [bne_eq_false_iff_eq]; omega
                      have HPN : Shut (Pu n c (mx X) tA tB ∧ ColDone n c (i + 1) (mx (rws tA))) := ⟨hP.out.1, hP.out.2.skip (.inl hic)⟩
                      clear hic hP
                      go_wp2_with fail
                      go_roundw
                      case rel => exact ⟨i + 1, tA, tB, by go_num, by omega, hT, HPN⟩
                      case measure => simp [intOf]; omega
                    · have hne2 : ((i : Int) != (c : Int)) = true := by rw [bne_iff_ne]; omega
                      obtain ⟨bi, cpi, gi⟩ := hT.out.gotA hP.out.1.sa hil
                      have di := gi.cell
                      have dt := gi.num c hlt
                      have lga : ga < wi.heap.size := hT.out.outA.1
                      have hzero := hP.out.1.sa.zero hil hlt
                      have xe := mx_is (rws tA) i c
                      generalize ((rws tA).getD i []).getD c 0 = t at *
                      have GI : Shut (RowGot w wi ga gb n ga i bi cpi tA) := ⟨gi⟩
                      clear gi
                      by_cases ht0 : t = 0
                      · have htb : (t != 0) = false := by rw [ht0]; rfl
                        have HPN : Shut (Pu n c (mx X) tA tB ∧ ColDone n c (i + 1) (mx (rws tA))) := ⟨hP.out.1, hP.out.2.skip (.inr (hzero.1 ht0))⟩
                        clear ht0 hP hzero xe
                        go_wp2_with fail
                        go_roundw
                        case rel => exact ⟨i + 1, tA, tB, by go_num, by omega, hT, HPN⟩
                        case measure => simp [intOf]; omega
                      · have htb : (t != 0) = true := by rw [bne_iff_ne]; exact ht0
                        have HTE : Shut (g8 t = mx (rws tA) i c) := ⟨xe.symm⟩
                        obtain ⟨bk, cpk, gk⟩ := hT.out.gotA hP.out.1.sa hlt
                        have dk := gk.cell
                        have fi := GI.out.free
                        have GK : Shut (RowGot w wi ga gb n ga c bk cpk tA) := ⟨gk⟩
                        clear ht0 hzero xe gk
                        go_wp2_with fail
                        have lga2 := lga
                        go_region_with ((go_at_call 46; refine (plus_at GI.out GK.out hP.out.1.sa hil hlt hn8 t _ ?_).mono ?_; (first | exact Below.refl _ _ | exact Below.drew (Below.refl _ _)); rintro e w11 ⟨g11, cp11, rfl, hg11, hr11, hc11, hb11⟩; have z11 := (GI.out.below lga2 (by first | exact hb11 | exact (Below.drew (Below.refl _ _)).trans hb11)).cell; have f11 := (GI.out.below lga2 (by first | exact hb11 | exact (Below.drew (Below.refl _ _)).trans hb11)).free; have l11 := Nat.lt_of_lt_of_le lga2 hb11.size))
                        all_goals
                          have hb12 : Below wi.heap.size wi w11 := (Below.drew (Below.refl wi.heap.size wi)).trans hb11
                          have T12 := (hT.out.below hb12).setA GI.out.lt (srv_is g11 n cp11 (plusL (g8 t) ((rws tA).getD i []) ((rws tA).getD c [])) (by rw [plusL_len]; exact (hP.out.1.sa.at hil).1)) (row_new hT.out hg11 hr11 (by rw [plusL_len, (hP.out.1.sa.at hil).1]; exact hc11))
                          obtain ⟨w12, hw12⟩ : ∃ w12, w12 = w11.setCell ⟨ga, i, none⟩ (.slice (some ⟨g11, 0, none⟩) n cp11) := ⟨_, rfl⟩
                          rw [← hw12] at T12 ⊢
                          obtain ⟨bm, cpm, gm⟩ := T12.gotB hP.out.1.sb hil
                          obtain ⟨bo, cpo, go⟩ := T12.gotB hP.out.1.sb hlt
                          have d12 := gm.cell
                          have e12 := go.cell
                          have f12 := gm.free
                          have l12 : gb < w12.heap.size := T12.outB.1
                          have HT12 : Shut (Two w w12 ga gb (tA.set i ⟨some ⟨g11, 0, none⟩, plusL (g8 t) ((rws tA).getD i []) ((rws tA).getD c []), cp11⟩) tB) := ⟨T12⟩
                          have GM : Shut (RowGot w w12 ga gb n gb i bm cpm tB) := ⟨gm⟩
                          have GO : Shut (RowGot w w12 ga gb n gb c bo cpo tB) := ⟨go⟩
                          clear hb12 T12 hw12 gm go hg11 hr11 hc11 hb11 z11 f11 l11 lga lga2 di dk dt fi GI GK
                          go_wp2_with fail
                          go_region_with ((go_at_call 46; refine (plus_at GM.out GO.out hP.out.1.sb hil hlt hn8 t _ ?_).mono ?_; (first | exact Below.refl _ _ | exact Below.drew (Below.refl _ _)); rintro e w13 ⟨g13, cp13, rfl, hg13, hr13, hc13, hb13⟩; have z13 := (GM.out.below l12 (by first | exact hb13 | exact (Below.drew (Below.refl _ _)).trans hb13)).cell; have f13 := (GM.out.below l12 (by first | exact hb13 | exact (Below.drew (Below.refl _ _)).trans hb13)).free; have l13 := Nat.lt_of_lt_of_le l12 hb13.size))
                          all_goals
                            have hb14 : Below w12.heap.size w12 w13 := (Below.drew (Below.refl w12.heap.size w12)).trans hb13
                            have T14 := (HT12.out.below hb14).setB GM.out.lt (srv_is g13 n cp13 (plusL (g8 t) ((rws tB).getD i []) ((rws tB).getD c [])) (by rw [plusL_len]; exact (hP.out.1.sb.at hil).1)) (row_new HT12.out hg13 hr13 (by rw [plusL_len, (hP.out.1.sb.at hil).1]; exact hc13))
                            have HT14 : Shut (Two w (w13.setCell ⟨gb, i, none⟩ (.slice (some ⟨g13, 0, none⟩) n cp13)) ga gb (tA.set i ⟨some ⟨g11, 0, none⟩, plusL (g8 t) ((rws tA).getD i []) ((rws tA).getD c []), cp11⟩) (tB.set i ⟨some ⟨g13, 0, none⟩, plusL (g8 t) ((rws tB).getD i []) ((rws tB).getD c []), cp13⟩)) := ⟨T14⟩
                            have HP14 : Shut (Pu n c (mx X) (tA.set i ⟨some ⟨g11, 0, none⟩, plusL (g8 t) ((rws tA).getD i []) ((rws tA).getD c []), cp11⟩) (tB.set i ⟨some ⟨g13, 0, none⟩, plusL (g8 t) ((rws tB).getD i []) ((rws tB).getD c []), cp13⟩) ∧ ColDone n c (i + 1) (mx (rws (tA.set i ⟨some ⟨g11, 0, none⟩, plusL (g8 t) ((rws tA).getD i []) ((rws tA).getD c []), cp11⟩)))) := ⟨hP.out.1.plus hlt hil hic hP.out.2 HTE.out rfl rfl (HT12.out.newB hg13)⟩
                            clear hb14 T14 hg13 hr13 hc13 hb13 z13 f13 l13 GM GO HT12 HTE d12 e12 f12 l12
                            go_wp2_with fail
                            go_roundw
                            case rel => exact ⟨i + 1, _, _, by go_num, by omega, HT14, HP14⟩
                            case measure => simp [intOf]; omega
                  · have e : i = n := by omega
                    have hil2 : ¬ (i : Int) < (n : Int) := by omega
                    have HPN : Shut (Pu n (c + 1) (mx X) tA tB) := ⟨by have h := hP.out.2; rw [e] at h; exact hP.out.1.next h⟩
                    clear hP e
                    go_wp2_with fail
                    go_roundw
                    case rel => exact ⟨c + 1, tA, tB, by go_num, by omega, hT, HPN⟩
                    case measure => simp [intOf]; omega
            · have e : p = n := by omega
              have hpl2 : ¬ (p : Int) < (n : Int) := by omega
              have hpe : ((p : Int) == (n : Int)) = true := by rw [beq_iff_eq]; omega
              have HNO : Shut (invX X = ([], false)) := ⟨invX_no (hP.out.none HX.out.2.2.1 hlt (fun i h1 h2 => hz.out i h1 (by omega)))⟩
              have HB : Shut (Below w.heap.size w wc) := ⟨hT.out.bel⟩
              clear e hz hT hP
              go_wp2_with fail
              go_ret2
              exact invPost_no HNO.out rfl (HB.out.alloc HB.out.size _)
        · have e : c = n := by omega
          have hlt2 : ¬ (c : Int) < (n : Int) := by omega
          have HI2 : Shut (IsInv X (rws ssB)) := ⟨by have h := hP.out; rw [e] at h; exact h.done HX.out.2.1 HX.out.2.2.1 HX.out.2.2.2⟩
          have HF : Shut (MAns wc (.slice (some ⟨gb, 0, none⟩) n capB) (rws ssB) w.heap.size wc.heap.size) := ⟨hT.out.fin hP.out.ap hP.out.lenB hcapB⟩
          have HB : Shut (Below w.heap.size w wc) := ⟨hT.out.bel⟩
          clear e hT hP
          go_wp2_with fail
          go_ret2
          exact invPost_yes HI2.out rfl HF.out HB.out
end Go.Proofs.YtbkimmbfepjodaaDoorT
/- The model's InvM, at every argument. -/
namespace Go.Proofs.YtbkimmbfepjodaaDoorT
set_option maxRecDepth 100000
open Go.RowKit
open W (B8 Mx)
attribute [local go_sem ↓] Go.wp_at_zero Go.wp_at_succ
attribute [local irreducible] W.gm W.xs W.mm W.gi mx

theorem rows2_of {w : World} {a : Option Addr} {ss : List SR} {lo hi : Nat} {X : List (List Int)} {n : Nat} (h : MR w a ss lo hi) (hX : rws ss = X) (hsq : Sq n X) (hp : 0 < n) : ∃ b off, a = some ⟨b, off, none⟩ ∧ Rows2 w X n b off := by
  have hl : ss.length = n := by rw [← hsq.len, ← hX, rws_len]
  obtain ⟨b, off, e, hb, hc⟩ := h.at (by omega)
  refine ⟨b, off, e, hb, fun i hi => ?_⟩
  have his : i < ss.length := by omega
  have hget : X.getD i [] = ss[i].row := by rw [← hX, List.getD_eq_getElem?_getD]; simp [rws, his]
  have hlen : ss[i].row.length = n := by rw [← hget]; exact (hsq.at hi).1
  obtain ⟨b', o', e', hb', hc'⟩ := crow_int (h.2 _ (List.getElem_mem his)).crow (by omega)
  have := hc i his
  unfold srv at this
  rw [hlen, e'] at this
  exact ⟨b', o', ss[i].cap, this, hb', fun j hj => by rw [hget]; exact hc' j (by omega)⟩
theorem sq_of {X : List (List Int)} (h : matOk X = true) (hc : colsOf X = X.length) : Sq X.length X := ⟨rfl, fun x hx => by rw [← hc]; exact (matOk_iff h).2.2 x hx⟩
set_option maxRecDepth 100000 in
set_option maxHeartbeats 4000000 in
theorem specInvM {w : World} {v : Value} {X : List (List Int)} {lo hi : Nat} (hs : MSee w v X lo hi) (hf : MFit X) : Calls Tw.prog 22 #[v] w fun e w' => InvPost X w e w' := by
  have hs' := hs
  obtain ⟨a1, cap1, ss, rfl, hr1, hm1⟩ := hs
  have hl1 : ss.length = X.length := by rw [← hr1, rws_len]
  rw [hl1] at hs' ⊢
  have hc1 := fun W (hW : Below w.heap.size w W) => specMatrixOk (hs'.below hW) hf
  cases h1 : matOk X with
  | false =>
    have HX : Hid (invX X = ([], false)) := invX_no (fun ⟨_, h⟩ => by have q := h.1; rw [h1] at q; cases q)
    rw [h1] at hc1
    have HC1 : Hid _ := hc1
    clear hc1 hm1 h1 hs'
    go_enter Tw.func22, Tw.ntmps22
    go_wp2_with fail
    refine (HC1.out _ (Below.refl _ _)).mono ?_
    rintro e w1 ⟨rfl, hb1⟩
    have HB : Hid (Below w.heap.size w w1) := hb1
    clear hb1
    go_wp2_with fail
    go_ret2
    exact invPost_no HX.out rfl (HB.out.alloc HB.out.size _)
  | true =>
    rw [h1] at hc1
    obtain ⟨⟨hx1, hx8⟩, ⟨hcx1, hcx8⟩, _⟩ := matOk_iff h1
    by_cases h3 : colsOf X = X.length
    · obtain ⟨b1, o1, rfl, hrow1⟩ := rows2_of hm1 hr1 (sq_of h1 h3) (by omega)
      exact invM_walk X X.length b1 o1 cap1 w (sq_of h1 h3) hx1 hx8 hrow1 h1 rfl h3 hc1
    · obtain ⟨b1, o1, rfl, hrow1⟩ := row_at hm1 hr1 h1
      have HX : Hid (invX X = ([], false)) := invX_no (fun ⟨_, h⟩ => h3 h.2.1)
      obtain ⟨loc0, cp0, row0, hr0⟩ := hrow1 0 (by omega)
      have HR0 : Hid _ := hr0
      have HC1 : Hid (∀ W : World, Below w.heap.size w W → Calls Tw.prog 44 #[.slice (some ⟨b1, o1, none⟩) X.length cap1] W fun e w' => e = .returned (.bool true) ∧ Below W.heap.size W w') := hc1
      have hne : ((X.length : Int) != (colsOf X : Int)) = true := by rw [bne_iff_ne]; omega
      have n0 : (0 : Int) < (X.length : Int) := by omega
      clear hc1 hm1 hs' hr0 hrow1 h1 h3 hr1 hl1 hf
      go_enter Tw.func22, Tw.ntmps22
      go_wp2_with fail
      refine (HC1.out _ (Below.refl _ _)).mono ?_
      rintro e w1 ⟨rfl, hb1⟩
      have d0 : w1.cell? ⟨b1, o1, none⟩ = some (.slice loc0 (colsOf X) cp0) := (HR0.out.below hb1).cell
      have HB : Hid (Below w.heap.size w w1) := hb1
      clear hb1
      go_wp2_with fail
      go_ret2
      exact invPost_no HX.out rfl (HB.out.alloc HB.out.size _)
end Go.Proofs.YtbkimmbfepjodaaDoorT
/- Slices of strings: how they are held against each other. -/
namespace Go.Proofs.YtbkimmbfepjodaaDoorT
set_option maxRecDepth 100000
open Go.RowKit

end Go.Proofs.YtbkimmbfepjodaaDoorT
/- Plain facts on figures: 'dg n' are the figures of n (none of 0), 'decS n' those that Decimal writes; the two ways of reading them back are one. -/
namespace Go.Proofs.YtbkimmbfepjodaaDoorT.W

def dgF : Nat → Nat → List UInt8
  | 0, _ => []
  | f + 1, n => if n = 0 then [] else dgF f (n / 10) ++ [UInt8.ofNat (48 + n % 10)]
def dg (n : Nat) : List UInt8 := dgF n n
def decS (n : Nat) : List UInt8 := if n = 0 then [48] else dg n
end Go.Proofs.YtbkimmbfepjodaaDoorT.W
/- The walks of the models' Decimal, and of the two ReadDecimal. -/
namespace Go.Proofs.YtbkimmbfepjodaaDoorT
set_option maxRecDepth 100000
open Go.RowKit
open Go.PlainAid (bt)

end Go.Proofs.YtbkimmbfepjodaaDoorT
/- Slices of strings: marks that are laid into one, and found again. -/
namespace Go.Proofs.YtbkimmbfepjodaaDoorT
set_option maxRecDepth 100000
open Go.RowKit
attribute [local go_sem ↓] Go.wp_at_zero Go.wp_at_succ

/-- The text of a mark. -/
def mt (k : Nat) : ByteArray := (⟨#[109]⟩ : ByteArray) ++ ⟨(W.decS k).toArray⟩

/-- Marks from k on. -/
def marks (k n : Nat) : List ByteArray := (List.range n).map fun j => mt (k + j)
/-- A row of strings that may be written. -/
def WRow (w : World) (g : Nat) (xs : List ByteArray) : Prop :=
  g < w.heap.size ∧ ∀ j, j < xs.length → w.cell? ⟨g, j, none⟩ = some (.string (xs.getD j ⟨#[]⟩)) ∧ w.frozen? ⟨g, j, none⟩ = false
end Go.Proofs.YtbkimmbfepjodaaDoorT
/- Rows of texts that a call has made. -/
namespace Go.Proofs.YtbkimmbfepjodaaDoorT
set_option maxRecDepth 100000
open Go.RowKit

/-- Texts as the cells of a row. -/
def tv (l : List ByteArray) : List Value := l.map Value.string
theorem tv_snoc (l : List ByteArray) (x : ByteArray) : tv l ++ [.string x] = tv (l ++ [x]) := by simp [tv]
theorem tv_len (l : List ByteArray) : (tv l).length = l.length := by simp [tv]
/-- A row of texts that a call has made: nothing of it is older than B. -/
def RowAt (w : World) (B : Nat) (a : Option Addr) (xs : List ByteArray) (cap : Nat) : Prop := xs.length ≤ cap ∧ (xs = [] ∨ ∃ g, a = some ⟨g, 0, none⟩ ∧ B ≤ g ∧ WRow w g xs)
theorem own_rowAt {w : World} {B : Nat} {v : Value} {xs : List ByteArray} (h : w.ownsRow B 9 1 v xs.length (tv xs)) : ∃ a cap, v = .slice a xs.length cap ∧ RowAt w B a xs cap := by
  have hc : ∀ g, v.ownBlock = some g → ∀ j u, (tv xs)[j]? = some u → w.cell? ((⟨g, 0, none⟩ : Addr).add j) = some u := fun g hg => h.cells hg
  have hlt := h.lt
  obtain ⟨_, ⟨rfl, h0⟩ | ⟨g, cap, cur, rfl, hB, hcur, hn, _, hsz, _⟩⟩ := h
  · have : xs = [] := List.eq_nil_of_length_eq_zero h0
    subst this
    exact ⟨none, 0, rfl, by simp, .inl rfl⟩
  · refine ⟨_, cap, rfl, hn, .inr ⟨g, rfl, hB, (hlt g rfl).2, fun j hj => ⟨?_, ?_⟩⟩⟩
    · have := hc g rfl j _ (show (tv xs)[j]? = some _ by simp [tv, hj]; rfl)
      have e : (⟨g, 0, none⟩ : Addr).add j = ⟨g, j, none⟩ := by
        cases j <;> simp [Addr.add]
      rw [e] at this
      simpa [List.getD, hj] using this
    · unfold World.frozen?
      rw [hcur]; simp
end Go.Proofs.YtbkimmbfepjodaaDoorT
/- Rows of texts as values: what is seen of one, what an answer is, what is marked, and the laws' own functions over them. -/
namespace Go.Proofs.YtbkimmbfepjodaaDoorT
set_option maxRecDepth 100000
open Go.RowKit
attribute [local go_sem ↓] Go.wp_at_zero Go.wp_at_succ

theorem tv_get (L : List ByteArray) (j : Nat) (h : j < L.length) : (tv L)[j]? = some (.string (L.getD j ⟨#[]⟩)) := by simp [tv, List.getD, h]
theorem tv_set (L : List ByteArray) (j : Nat) (x : ByteArray) : (tv L).set j (.string x) = tv (L.set j x) := by simp [tv, List.map_set]
theorem wrow_cells {w : World} {g : Nat} {L : List ByteArray} : WRow w g L ↔ WCells w g (tv L) := by
  constructor
  · intro h
    refine ⟨h.1, fun i v hv => ?_⟩
    have hi : i < L.length := by have := (List.getElem?_eq_some_iff.1 hv).1; rw [tv_len] at this; exact this
    rw [tv_get L i hi] at hv
    cases hv
    exact h.2 i hi
  · intro h
    exact ⟨h.1, fun j hj => h.2 j _ (tv_get L j hj)⟩
/-- Texts that are few and short enough, one by one. -/
def UFit (L : List ByteArray) : Prop := L.length ≤ 1048576 ∧ ∀ x ∈ L, x.size ≤ 1048576
/-- A value that is these texts. -/
def SSee (w : World) (v : Value) (L : List ByteArray) (lo hi : Nat) : Prop := ∃ (a : Option Addr) (cap : Nat), v = .slice a L.length cap ∧ RRow w a (tv L) lo hi
/-- An answer of texts: nothing, or a row that may be written. -/
def SAns (w : World) (v : Value) (L : List ByteArray) (lo hi : Nat) : Prop := ∃ (a : Option Addr) (cap : Nat), v = .slice a L.length cap ∧ L.length ≤ cap ∧ (L = [] ∨ ∃ g, a = some ⟨g, 0, none⟩ ∧ lo ≤ g ∧ g < hi ∧ WCells w g (tv L))
theorem SAns.see {w : World} {v : Value} {L : List ByteArray} {lo hi : Nat} (h : SAns w v L lo hi) : SSee w v L lo hi := by
  obtain ⟨a, cap, e, _, h1⟩ := h
  refine ⟨a, cap, e, ?_⟩
  rcases h1 with rfl | ⟨g, rfl, q1, q2, hm⟩
  · intro h; simp [tv] at h
  · exact RRow.of_wcells hm q1 q2
theorem SSee.below {w w' : World} {v : Value} {L : List ByteArray} {lo hi : Nat} (h : SSee w v L lo hi) (hb : Below w.heap.size w w') : SSee w' v L lo hi := by
  obtain ⟨a, cap, e, h1⟩ := h
  exact ⟨a, cap, e, h1.below hb⟩
theorem SAns.empty (w : World) (a : Option Addr) (cap lo hi : Nat) : SAns w (.slice a 0 cap) [] lo hi := ⟨a, cap, rfl, Nat.zero_le _, .inl rfl⟩
/-- What an answer of texts is: new memory alone. -/
def SPost (L : List ByteArray) (w : World) (e : Ending) (w' : World) : Prop := ∃ v, e = .returned v ∧ SAns w' v L w.heap.size w'.heap.size ∧ Below w.heap.size w w'
theorem own_sans {w w' : World} {v : Value} {L : List ByteArray} {n : Nat} (hn : L.length = n) (h : w'.ownsRow w.heap.size 9 1 v n (tv L)) : SAns w' v L w.heap.size w'.heap.size := by
  have h' := h
  rw [← hn] at h'
  obtain ⟨a, cap, rfl, hc, h1⟩ := own_rowAt h'
  refine ⟨a, cap, rfl, hc, ?_⟩
  rcases h1 with rfl | ⟨g, rfl, q1, hm⟩
  · exact .inl rfl
  · exact .inr ⟨g, rfl, q1, hm.1, wrow_cells.1 hm⟩
theorem infoTextG : (Tw.prog.info? 9).map (fun i => (i.zero, i.size, i.bytes)) = some (some (.string ⟨#[]⟩), 1, 16) := by kernel_rfl
end Go.Proofs.YtbkimmbfepjodaaDoorT
/- Rows of bytes that may be written: of a call's own, and made of a text. -/
namespace Go.Proofs.YtbkimmbfepjodaaDoorT
set_option maxRecDepth 100000
open Go.RowKit

/-- A row of bytes that may be written. -/
def BRow (w : World) (g : Nat) (l : List UInt8) : Prop :=
  g < w.heap.size ∧ ∀ j, j < l.length → w.cell? ⟨g, j, none⟩ = some (.int .u8 ((l.getD j 0).toNat : Int)) ∧ w.frozen? ⟨g, j, none⟩ = false
theorem BRow.set {w : World} {g : Nat} {l : List UInt8} (h : BRow w g l) (i : Nat) (x : UInt8) (hi : i < l.length) : BRow (w.setCell ⟨g, i, none⟩ (.int .u8 (x.toNat : Int))) g (l.set i x) := by
  refine ⟨by have := h.1; simpa [World.setCell] using this, fun j hj => ?_⟩
  rw [List.length_set] at hj
  refine ⟨?_, (World.frozen?_setCell _ _ _ _).trans (h.2 j hj).2⟩
  by_cases e : j = i
  · subst e
    rw [World.cell?_setCell_same _ _ _ (h.2 j hj).1]
    simp [List.getD, hi]
  · rw [World.cell?_setCell_other _ _ _ _ (by first | (simp; done) | (simp; omega)), (h.2 j hj).1]
    simp [List.getD, Ne.symm e]
theorem brow_string {w : World} {g cap : Nat} {l : List UInt8} (h : BRow w g l) :
    (convert 58 9 (.slice (some ⟨g, 0, none⟩) l.length cap)).run Tw.prog w = .ok (.string ⟨l.toArray⟩) w :=
  run_convert_bytes_back w 58 9 5 ⟨g, 0, none⟩ cap l Tw.underlying58 Tw.underlying5 Tw.underlying9 (fun j hj => by
    have e : (⟨g, 0, none⟩ : Addr).add j = ⟨g, j, none⟩ := by cases j <;> simp [Addr.add]
    rw [e, (h.2 j hj).1]
    simp [List.getD, hj])
/-- The bytes of a text, in a block of their own. -/
theorem bytes_made (w : World) (s : ByteArray) : ∃ (w' : World) (c : Nat), (convert 9 58 (.string s)).run Tw.prog w = .ok (.slice (some ⟨w.heap.size, 0, none⟩) s.size c) w' ∧ BRow w' w.heap.size s.data.toList ∧ Below w.heap.size w w' := by
  refine ⟨_, _, run_bytes_of_string w 9 58 5 s Tw.underlying9 Tw.underlying58 Tw.underlying5, ⟨?_, fun j hj => ⟨?_, ?_⟩⟩, ?_⟩
  · show w.heap.size < (w.heap.push _).size
    simp
  · rw [show w.heap.size = w.drew.heap.size from rfl, World.cell?_alloc_mark]
    have hj' : j < s.data.size := by simpa using hj
    unfold bytesRow
    rw [Array.getElem?_append_left (by simpa using hj')]
    simp only [Array.getElem?_map, List.getD, Array.getElem?_toList]
    rw [Array.getElem?_eq_getElem hj']
    rfl
  · rw [show w.heap.size = w.drew.heap.size from rfl, World.frozen?_alloc_mark]
    have hj' : j < s.data.size := by simpa using hj
    have h2 : j < (bytesRow s (grownCap w s.size 0 5)).size := by unfold bytesRow; rw [Array.size_append, Array.size_map]; omega
    rw [decide_eq_false (show ¬ (bytesRow s (grownCap w s.size 0 5)).size ≤ j by omega)]
    rfl
  · exact (Below.drew (Below.refl _ _)).alloc (Nat.le_refl _) _
end Go.Proofs.YtbkimmbfepjodaaDoorT
/- Plain facts on hexadecimal figures. -/
namespace Go.Proofs.YtbkimmbfepjodaaDoorT.W
open Go.PlainAid (bt)

/-- The figure of a number below 16. -/
def hfI (x : Int) : Int := if x < 10 then 48 + x else 87 + x
def hf (n : Nat) : UInt8 := UInt8.ofNat (hfI n).toNat
/-- The first k bytes of a text. -/
def firstK (s : ByteArray) (k : Nat) : List UInt8 := s.data.toList.take k
theorem firstK_all (s : ByteArray) (k : Nat) (h : s.size ≤ k) : firstK s k = s.data.toList := by
  have e : s.data.size = s.size := rfl
  unfold firstK; exact List.take_of_length_le (by simp; omega)
theorem firstK_step (s : ByteArray) (k : Nat) (h : k < s.size) : ∃ b : UInt8, firstK s (k + 1) = firstK s k ++ [b] ∧ bt s k = (b.toNat : Int) := by
  refine ⟨s[k], ?_, ?_⟩
  · unfold firstK; rw [List.take_succ_eq_append_getElem (by simpa using h)]; rfl
  · unfold bt; rw [dif_pos h]
end Go.Proofs.YtbkimmbfepjodaaDoorT.W
namespace Go.Proofs.YtbkimmbfepjodaaDoorT
set_option maxRecDepth 100000
open Go.RowKit
open Go.PlainAid (bt)
/-- A byte of a string. -/
theorem index_str (s : ByteArray) (k : Nat) (h : k < s.size) (w : World) :
    (Instr.index 9 (.string s) (.int .i64 (k : Int))).run Tw.prog w = .ok (.int .u8 (bt s k)) w := by
  have hb := Go.PlainAid.get_bt s k h
  rw [run_index_string _ 9 s .i64 k Tw.underlying9, dif_pos ⟨by omega, by omega⟩, ← hb]
  rfl
end Go.Proofs.YtbkimmbfepjodaaDoorT
/- The walks of the models of the field of bytes over texts: AddText, MulText. -/
namespace Go.Proofs.YtbkimmbfepjodaaDoorT
set_option maxRecDepth 100000
open Go.RowKit
open W (B8)
attribute [local go_sem ↓] Go.wp_at_zero Go.wp_at_succ
attribute [local irreducible] W.gm

/-- The sum of two texts, and a text so many times. -/
def addB (a b : ByteArray) : ByteArray := ⟨(W.addL a.data.toList b.data.toList).toArray⟩
def mulT (A : B8) (s : ByteArray) : ByteArray := ⟨(W.mulL A s.data.toList).toArray⟩
theorem addB_comm (a b : ByteArray) : addB a b = addB b a := by unfold addB; rw [W.addL_comm]
theorem u8_xor (x y : UInt8) : bits .xor .u8 (x.toNat : Int) (y.toNat : Int) = ((x ^^^ y).toNat : Int) := by
  have h1 : ∀ z : UInt8, (BitVec.ofInt 8 (z.toNat : Int)).toNat = z.toNat := fun z => by rw [BitVec.toNat_ofInt]; have := z.toNat_lt; omega
  have h2 := (x ^^^ y).toNat_lt
  show IntKind.u8.wrap ((BitVec.ofInt 8 (x.toNat : Int) ^^^ BitVec.ofInt 8 (y.toNat : Int)).toNat : Nat) = _
  rw [BitVec.toNat_xor, h1, h1, ← UInt8.toNat_xor]
  rw [UInt8.toNat_xor] at h2 ⊢
  simp [IntKind.wrap, IntKind.bits, IntKind.signed]
  omega
theorem get_list (s : ByteArray) (k : Nat) (h : k < s.size) : Go.PlainAid.bt s k = ((s.data.toList.getD k 0).toNat : Int) := by
  unfold Go.PlainAid.bt
  rw [dif_pos h]
  have : s.data.toList.getD k 0 = s[k] := by
    have hk : k < s.data.size := h
    rw [List.getD_eq_getElem?_getD, Array.getElem?_toList, Array.getElem?_eq_getElem hk]
    rfl
  rw [this]
set_option maxHeartbeats 1000000 in
theorem specAdd_long (a b : ByteArray) (w : World) (ha : a.size ≤ 1048576) (h : b.size ≤ a.size) :
    Calls Tw.prog 47 #[.string a, .string b] w fun e w' => e = .returned (.string (addB a b)) ∧ Below w.heap.size w w' := by
  have hg := Go.PlainAid.get_bt b
  have hlt' : ¬ (a.size : Int) < (b.size : Int) := by omega
  obtain ⟨w1, c1, hcv, hrow, hb1⟩ := bytes_made w a
  have hla : a.data.toList.length = a.size := rfl
  have hlb : b.data.toList.length = b.size := rfl
  have HB1 : Hid (Below w.heap.size w w1) := hb1
  have HROW : Hid (BRow w1 w.heap.size a.data.toList) := hrow
  clear hb1 hrow
  go_enter Tw.func47, Tw.ntmps47
  go_wp2_with fail
  go_loopw [7] (fun i wr => ∃ k : Nat, i = .int .i64 k ∧ k ≤ b.size ∧ BRow wr w.heap.size (W.addTo a.data.toList b.data.toList k) ∧ Below w.heap.size w wr) (fun i _ => b.size - (intOf i).toNat)
  case atStart => exact ⟨0, rfl, Nat.zero_le _, by rw [W.addTo_zero]; exact HROW.out, HB1.out⟩
  case round =>
    obtain ⟨k, rfl, hk, hrw, hbl⟩ := hrel
    have hll := W.addTo_len (a := a.data.toList) (b := b.data.toList) (k := k) h
    by_cases hlt : k < b.size
    · have k0 : (0 : Int) ≤ (k : Int) := by omega
      have k1 : (k : Int) < (b.size : Int) := by omega
      have k2 : (k : Int) < (a.size : Int) := by omega
      have hst := W.addTo_step (a := a.data.toList) (b := b.data.toList) (k := k) h hlt
      have hc := hrw.2 k (by omega)
      rw [hst.1] at hc
      obtain ⟨hc1, hc2⟩ := hc
      have hgl := get_list b k hlt
      have hset := hrw.set k (a.data.toList.getD k 0 ^^^ b.data.toList.getD k 0) (by omega)
      rw [hst.2] at hset
      have hix := index_str b k hlt
      rw [hgl] at hix
      have hxo := u8_xor (a.data.toList.getD k 0) (b.data.toList.getD k 0)
      generalize a.data.toList.getD k 0 = x at *
      generalize b.data.toList.getD k 0 = y at *
      have HS : Hid (BRow (wr.setCell ⟨w.heap.size, k, none⟩ (.int .u8 ((x ^^^ y).toNat : Int))) w.heap.size (W.addTo a.data.toList b.data.toList (k + 1))) := hset
      have HBL : Hid (Below w.heap.size w wr) := hbl
      clear hset hst hgl hrw hbl hg
      generalize x ^^^ y = z at *
      go_wp2_with fail
      go_region
      all_goals go_wp2_with fail
      all_goals exact ⟨⟨k + 1, by go_num, by omega, HS.out, Below.drew (HBL.out.setCell (Nat.le_refl _) _)⟩, by simp [intOf]; omega⟩
    · have e : k = b.size := by omega
      subst e
      have hall := W.addTo_all (a := a.data.toList) (b := b.data.toList) h
      rw [hlb] at hall
      have hcv2 := brow_string (cap := c1) hrw
      rw [hall] at hcv2
      have hl2 : (W.addL a.data.toList b.data.toList).length = a.size := by rw [← hall]; exact hll
      rw [hl2] at hcv2
      have HBL : Hid (Below w.heap.size w wr) := hbl
      clear hrw hall hl2 hll hbl hg
      go_wp2_with fail
      go_ret
      exact ⟨rfl, HBL.out⟩
set_option maxHeartbeats 1000000 in
theorem specAdd_short (b a : ByteArray) (w : World) (ha : a.size ≤ 1048576) (h' : b.size < a.size) :
    Calls Tw.prog 47 #[.string b, .string a] w fun e w' => e = .returned (.string (addB b a)) ∧ Below w.heap.size w w' := by
  rw [addB_comm b a]
  have h : b.size ≤ a.size := by omega
  have hg := Go.PlainAid.get_bt b
  have hlt' : (b.size : Int) < (a.size : Int) := by omega
  clear h'
  obtain ⟨w1, c1, hcv, hrow, hb1⟩ := bytes_made w a
  have hla : a.data.toList.length = a.size := rfl
  have hlb : b.data.toList.length = b.size := rfl
  have HB1 : Hid (Below w.heap.size w w1) := hb1
  have HROW : Hid (BRow w1 w.heap.size a.data.toList) := hrow
  clear hb1 hrow
  go_enter Tw.func47, Tw.ntmps47
  go_wp2_with fail
  go_loopw [7] (fun i wr => ∃ k : Nat, i = .int .i64 k ∧ k ≤ b.size ∧ BRow wr w.heap.size (W.addTo a.data.toList b.data.toList k) ∧ Below w.heap.size w wr) (fun i _ => b.size - (intOf i).toNat)
  case atStart => exact ⟨0, rfl, Nat.zero_le _, by rw [W.addTo_zero]; exact HROW.out, HB1.out⟩
  case round =>
    obtain ⟨k, rfl, hk, hrw, hbl⟩ := hrel
    have hll := W.addTo_len (a := a.data.toList) (b := b.data.toList) (k := k) h
    by_cases hlt : k < b.size
    · have k0 : (0 : Int) ≤ (k : Int) := by omega
      have k1 : (k : Int) < (b.size : Int) := by omega
      have k2 : (k : Int) < (a.size : Int) := by omega
      have hst := W.addTo_step (a := a.data.toList) (b := b.data.toList) (k := k) h hlt
      have hc := hrw.2 k (by omega)
      rw [hst.1] at hc
      obtain ⟨hc1, hc2⟩ := hc
      have hgl := get_list b k hlt
      have hset := hrw.set k (a.data.toList.getD k 0 ^^^ b.data.toList.getD k 0) (by omega)
      rw [hst.2] at hset
      have hix := index_str b k hlt
      rw [hgl] at hix
      have hxo := u8_xor (a.data.toList.getD k 0) (b.data.toList.getD k 0)
      generalize a.data.toList.getD k 0 = x at *
      generalize b.data.toList.getD k 0 = y at *
      have HS : Hid (BRow (wr.setCell ⟨w.heap.size, k, none⟩ (.int .u8 ((x ^^^ y).toNat : Int))) w.heap.size (W.addTo a.data.toList b.data.toList (k + 1))) := hset
      have HBL : Hid (Below w.heap.size w wr) := hbl
      clear hset hst hgl hrw hbl hg
      generalize x ^^^ y = z at *
      go_wp2_with fail
      go_region
      all_goals go_wp2_with fail
      all_goals exact ⟨⟨k + 1, by go_num, by omega, HS.out, Below.drew (HBL.out.setCell (Nat.le_refl _) _)⟩, by simp [intOf]; omega⟩
    · have e : k = b.size := by omega
      subst e
      have hall := W.addTo_all (a := a.data.toList) (b := b.data.toList) h
      rw [hlb] at hall
      have hcv2 := brow_string (cap := c1) hrw
      rw [hall] at hcv2
      have hl2 : (W.addL a.data.toList b.data.toList).length = a.size := by rw [← hall]; exact hll
      rw [hl2] at hcv2
      have HBL : Hid (Below w.heap.size w wr) := hbl
      clear hrw hall hl2 hll hbl hg
      go_wp2_with fail
      go_ret
      exact ⟨rfl, HBL.out⟩
theorem specAddText (a b : ByteArray) (w : World) (ha : a.size ≤ 1048576) (hb : b.size ≤ 1048576) : Calls Tw.prog 47 #[.string a, .string b] w fun e w' => e = .returned (.string (addB a b)) ∧ Below w.heap.size w w' := by
  by_cases h : b.size ≤ a.size
  · exact specAdd_long a b w ha h
  · exact specAdd_short a b w hb (by omega)
theorem mul_word (A : B8) (c : UInt8) (x : Int) (h : A = g8 x) : W.gm (g8 x) (g8 (c.toNat : Int)) = (W.mulB A c).toBitVec ∧ IntKind.u8.wrap ((W.mulB A c).toBitVec.toNat : Int) = ((W.mulB A c).toNat : Int) ∧ IntKind.i64.wrap (c.toNat : Int) = (c.toNat : Int) := by
  have e : g8 (c.toNat : Int) = c.toBitVec := g8_back c.toBitVec
  have hl := (W.mulB A c).toNat_lt
  have hc := c.toNat_lt
  refine ⟨by rw [e, ← h]; rfl, ?_, IntWalk.i64_in _ ⟨by omega, by omega⟩⟩
  show IntKind.u8.wrap ((W.mulB A c).toNat : Int) = _
  simp [IntKind.wrap, IntKind.bits, IntKind.signed]
  omega
set_option maxHeartbeats 1000000 in
theorem specMulText (x : Int) (s : ByteArray) (w : World) (hs : s.size ≤ 1048576) : Calls Tw.prog 48 #[.int .i64 x, .string s] w fun e w' => e = .returned (.string (mulT (g8 x) s)) ∧ Below w.heap.size w w' := by
  obtain ⟨A, hA⟩ : ∃ A, A = g8 x := ⟨_, rfl⟩
  rw [← hA]
  have HA : Hid (A = g8 x) := hA
  clear hA
  obtain ⟨w1, c1, hcv, hrow, hb1⟩ := bytes_made w s
  have HB1 : Hid (Below w.heap.size w w1) := hb1
  have HROW : Hid (BRow w1 w.heap.size s.data.toList) := hrow
  clear hb1 hrow
  go_enter Tw.func48, Tw.ntmps48
  go_wp2_with fail
  go_loopw [6] (fun i wr => ∃ k : Nat, i = .int .i64 k ∧ k ≤ s.size ∧ BRow wr w.heap.size (W.mulTo A s.data.toList k) ∧ Below w.heap.size w wr) (fun i _ => s.size - (intOf i).toNat)
  case atStart => exact ⟨0, rfl, Nat.zero_le _, by rw [W.mulTo_zero]; exact HROW.out, HB1.out⟩
  case round =>
    obtain ⟨k, rfl, hk, hrw, hbl⟩ := hrel
    have hll := W.mulTo_len A s.data.toList k
    have hls : s.data.toList.length = s.size := rfl
    by_cases hlt : k < s.size
    · have k0 : (0 : Int) ≤ (k : Int) := by omega
      have k1 : (k : Int) < (s.size : Int) := by omega
      have hst := W.mulTo_step A (l := s.data.toList) (k := k) hlt
      have hc := hrw.2 k (by omega)
      rw [hst.1] at hc
      obtain ⟨hc1, hc2⟩ := hc
      have hset := hrw.set k (W.mulB A (s.data.toList.getD k 0)) (by omega)
      rw [hst.2] at hset
      generalize s.data.toList.getD k 0 = c at *
      obtain ⟨m1, m2, m3⟩ := mul_word A c x HA.out
      have hcall := specMulG x (c.toNat : Int)
      rw [m1] at hcall
      have HS : Hid (BRow (wr.setCell ⟨w.heap.size, k, none⟩ (.int .u8 ((W.mulB A c).toNat : Int))) w.heap.size (W.mulTo A s.data.toList (k + 1))) := hset
      have HBL : Hid (Below w.heap.size w wr) := hbl
      clear hset hst hrw hbl m1
      generalize (W.mulB A c).toBitVec = z at *
      generalize W.mulB A c = y at *
      go_wp2_with fail
      refine (hcall _).mono ?_
      clear hcall
      rintro e w2 ⟨rfl, rfl⟩
      go_wp2_with fail
      go_roundw
      case rel => exact ⟨k + 1, by go_num, by omega, HS.out, HBL.out.setCell (Nat.le_refl _) _⟩
      case measure => simp [intOf]; omega
    · have e : k = s.size := by omega
      subst e
      have hall := W.mulTo_all A s.data.toList (k := s.size) (by omega)
      have hcv2 := brow_string (cap := c1) hrw
      rw [hall, W.mulL_len, hls] at hcv2
      have HBL : Hid (Below w.heap.size w wr) := hbl
      clear hrw hall hll hbl
      go_wp2_with fail
      go_ret
      exact ⟨rfl, HBL.out⟩
theorem addB_size (a b : ByteArray) : (addB a b).size = max a.size b.size := by
  unfold addB
  show (W.addL a.data.toList b.data.toList).toArray.size = _
  rw [List.size_toArray, W.addL_len]
  rfl
theorem mulT_size (A : B8) (s : ByteArray) : (mulT A s).size = s.size := by
  unfold mulT
  show (W.mulL A s.data.toList).toArray.size = _
  rw [List.size_toArray, W.mulL_len]
  rfl
end Go.Proofs.YtbkimmbfepjodaaDoorT
