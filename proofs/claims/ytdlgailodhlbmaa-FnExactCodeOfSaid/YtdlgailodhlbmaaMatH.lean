/- The walk of the model's InvM. -/
import Derived.Test.YtdlgailodhlbmaaMatI
import Derived.Deep.CutRange
namespace Go.Proofs.Ytdlgailodhlbmaa
open Go.RowKit
open W (B8 Mx)
attribute [local go_sem ↓] Go.wp_at_zero Go.wp_at_succ
attribute [local irreducible] W.gm W.xs W.mm W.gi mx

/-- Rows of numbers where they lie. -/
def Rows2 (w : World) (X : List (List Int)) (n b off : Nat) : Prop := b < w.heap.size ∧ ∀ i, i < n → ∃ b' o' cp, w.cell? ⟨b, off + i, none⟩ = some (.slice (some ⟨b', o', none⟩) n cp) ∧ b' < w.heap.size ∧ ∀ j, j < n → w.cell? ⟨b', o' + j, none⟩ = some (.int .i64 ((X.getD i []).getD j 0))
theorem Rows2.below {w w' : World} {X : List (List Int)} {n b off : Nat} (h : Rows2 w X n b off) (hb : Below w.heap.size w w') : Rows2 w' X n b off := ⟨Nat.lt_of_lt_of_le h.1 hb.size, fun i hi => by
  obtain ⟨b', o', cp, e, hl, hc⟩ := h.2 i hi
  exact ⟨b', o', cp, (hb.cell (p := ⟨b, off + i, none⟩) h.1).trans e, Nat.lt_of_lt_of_le hl hb.size, fun j hj => (hb.cell (p := ⟨b', o' + j, none⟩) hl).trans (hc j hj)⟩⟩
/-- What InvM answers. -/
def InvPost (X : List (List Int)) (w : World) (e : Ending) (w' : World) : Prop := ∃ v, e = .returned (.tuple #[v, .bool (invX X).2]) ∧ MAns w' v (invX X).1 w.heap.size w'.heap.size ∧ Below w.heap.size w w'
theorem invPost_no {X : List (List Int)} {w w' : World} {e : Ending} {a : Option Addr} {cap : Nat} (h : invX X = ([], false)) (he : e = .returned (.tuple #[.slice a 0 cap, .bool false])) (hb : Below w.heap.size w w') : InvPost X w e w' := by
  unfold InvPost
  rw [h]
  exact ⟨_, he, MAns.empty _ _ _ _ _, hb⟩
theorem invPost_yes {X Y : List (List Int)} {w w' : World} {e : Ending} {v : Value} (h : IsInv X Y) (he : e = .returned (.tuple #[v, .bool true])) (hv : MAns w' v Y w.heap.size w'.heap.size) (hb : Below w.heap.size w w') : InvPost X w e w' := by
  unfold InvPost
  rw [invX_yes h]
  exact ⟨v, he, hv, hb⟩
theorem own_wider1 {w : World} {B C n sz : Nat} {t : TypeId} {v : Value} {L : List Value} (h : w.ownsRow B t sz v n L) (hC : C ≤ B) : w.ownsRow C t sz v n L := by
  obtain ⟨h1, h | ⟨g, cap, cur, e, hB, rest⟩⟩ := h
  · exact ⟨h1, .inl h⟩
  · exact ⟨h1, .inr ⟨g, cap, cur, e, Nat.le_trans hC hB, rest⟩⟩
theorem own_some {w : World} {B n sz : Nat} {t : TypeId} {v : Value} {L : List Value} (h : w.ownsRow B t sz v n L) (hp : 0 < n) : ∃ g cap, v = .slice (some ⟨g, 0, none⟩) n cap ∧ n ≤ cap := by
  rcases h.2 with ⟨_, h0⟩ | ⟨g, cap, _, rfl, _, _, hc, _⟩
  · omega
  · exact ⟨g, cap, rfl, hc⟩
theorem BI.up {w w1 wr : World} {v : Value} {ts : List SR} (h : BI w1 wr v ts) (hb : Below w.heap.size w w1) : BI w wr v ts :=
  ⟨own_wider1 h.own hb.size, fun s hs => by
    obtain ⟨b, e, q1, q2⟩ := h.rows s hs
    exact ⟨b, e, Nat.le_trans hb.size q1, q2⟩, h.apart, hb.trans (h.bel.mono hb.size)⟩
set_option maxRecDepth 100000 in
set_option maxHeartbeats 8000000 in
theorem invM_walk (X : List (List Int)) (n b1 o1 cap1 : Nat) (w : World) (hX : Sq n X) (hn1 : 1 ≤ n) (hn8 : n ≤ 8) (hR : Rows2 w X n b1 o1) (hok : matOk X = true) (hxl : X.length = n) (hcol : colsOf X = n)
    (hc1 : ∀ W : World, Below w.heap.size w W → Calls Try.prog 65 #[.slice (some ⟨b1, o1, none⟩) n cap1] W fun e w' => e = .returned (.bool true) ∧ Below W.heap.size W w') :
    Calls Try.prog 62 #[.slice (some ⟨b1, o1, none⟩) n cap1] w fun e w' => InvPost X w e w' := by
  obtain ⟨i0, hi0, hz0, hz1, hz2⟩ := info_parts infoRow
  obtain ⟨i1, hi1, hy0, hy1, hy2⟩ := info_parts infoIntG
  have HX : Hid (Sq n X ∧ matOk X = true ∧ X.length = n ∧ colsOf X = n) := ⟨hX, hok, hxl, hcol⟩
  have HR : Shut (Rows2 w X n b1 o1) := ⟨hR⟩
  have HC1 : Hid _ := hc1
  have hne : ((n : Int) != (n : Int)) = false := by simp
  have n0 : (0 : Int) < (n : Int) := by omega
  clear hX hok hxl hcol hR hc1
  go_enter Try.func62, Try.ntmps62
  go_wp2_with fail
  refine (HC1.out _ (Below.refl _ _)).mono ?_
  rintro e w1 ⟨rfl, hb1⟩
  obtain ⟨br, or, cr, d0', lr, _⟩ := (HR.out.below hb1).2 0 (by omega)
  have d0 : w1.cell? ⟨b1, o1, none⟩ = some (.slice (some ⟨br, or, none⟩) n cr) := d0'
  clear d0'
  have HB1 : Shut (Below w.heap.size w w1) := ⟨hb1⟩
  clear hb1 HC1
  go_wp2_with fail
  go_loopw [5, 6] (fun v i wr => ∃ (ts : List SR) (vv : Value), vv = v ∧ i = .int .i64 (ts.length : Nat) ∧ ts.length ≤ n ∧ Shut (rws ts = X.take ts.length) ∧ Shut (BI w wr vv ts)) (fun _ i _ => n - (intOf i).toNat)
  case atStart => exact ⟨[], _, rfl, rfl, by simp, ⟨rfl⟩, ⟨(BI.start w1 (World.ownsRow_made w1 #[] 0 (Nat.le_refl _) (by decide) rfl) ((Below.refl _ _).alloc (Nat.le_refl _) _)).up HB1.out⟩⟩
  case round =>
    clear d0 HB1
    obtain ⟨ts, v, rfl, rfl, hk, hr, hbi⟩ := hrel
    obtain ⟨wo, rfl⟩ : ∃ wo, wo = wr := ⟨_, rfl⟩
    obtain ⟨i, hie⟩ : ∃ i, i = ts.length := ⟨_, rfl⟩
    have HI : Hid (i = ts.length) := hie
    rw [← hie] at hk ⊢
    clear hie
    by_cases hlt : i < n
    · have hlt' : (i : Int) < (n : Int) := by omega
      have k0 : (0 : Int) ≤ (i : Int) := by omega
      have hsz := hbi.out.bel.size
      obtain ⟨br, or, cr, d0, lr, hnum⟩ := (HR.out.below hbi.out.bel).2 i hlt
      obtain ⟨r, hre⟩ : ∃ r, r = X.getD i [] := ⟨_, rfl⟩
      have HRE : Hid (r = X.getD i [] ∧ r.length = n) := ⟨hre, by rw [hre]; exact (HX.out.1.at hlt).1⟩
      rw [← hre] at hnum
      clear hre
      have HNUM : Shut (∀ j u, (ics (r))[j]? = some u → (wo.alloc (.cells #[] 3)).cell? ((⟨br, or, none⟩ : Addr).add j) = some u) := ⟨fun j u hu => by
        have hj : j < (r).length := by have := (List.getElem?_eq_some_iff.1 hu).1; rw [ics_len] at this; exact this
        rw [ics_get _ j hj] at hu
        cases hu
        have ea : (⟨br, or, none⟩ : Addr).add j = ⟨br, or + j, none⟩ := by simp [Addr.add]
        rw [ea]
        exact (((Below.refl wo.heap.size wo).alloc (Nat.le_refl _) _).cell (p := ⟨br, or + j, none⟩) lr).trans (hnum j (by have := HRE.out.2; omega))⟩
      have l1 : b1 < wo.heap.size := (HR.out.below hbi.out.bel).1
      have hxl : (ics (r)).length = n * 1 := by rw [ics_len, HRE.out.2, Nat.mul_one]
      clear hnum
      go_wp2_with (at_builtin; refine wpList_append_own _ rfl _ _ 32 rfl wo.heap.size 3 i1 (.int .i64 0) 1 8 Try.underlying32 hi1 hy0 hy1 hy2 rfl (by decide) _ 0 [] rfl (World.ownsRow_made wo #[] 0 (Nat.le_refl _) (by decide) rfl) ⟨br, or, none⟩ n cr (ics (r)) rfl hxl HNUM.out ?c2 ?c3 ?c4 ?c5 ?_)
      case c2 => exact fun u hu => by obtain ⟨y, _, rfl⟩ := List.mem_map.1 hu; rfl
      case c3 => unfold maxLen; omega
      case c4 => omega
      case c5 => simp
      intro v5 w5 hown5 hgrow5 _
      have hown5 : w5.ownsRow wo.heap.size 3 1 v5 n (ics r) := by simpa using hown5
      obtain ⟨g5, cp5, rfl, hcp5⟩ := own_some hown5 (by omega)
      have hb5 : Below wo.heap.size wo w5 := ((Below.refl wo.heap.size wo).alloc (Nat.le_refl _) _).grown hgrow5 (by simp) (fun j hj => by simp [Value.ownBlock] at hj; omega)
      have hg5 := (hown5.lt g5 rfl).1
      have HROW : Shut (WCells w5 g5 (ics (r))) := ⟨own_wcells hown5⟩
      have HNEW : Shut ((∀ q, v.ownBlock = some q → q ≠ g5) ∧ ∀ s ∈ ts, s.loc ≠ some ⟨g5, 0, none⟩) := ⟨fun q hq => by have := (hbi.out.own.lt q hq).2; omega, fun s hs e => by obtain ⟨b', e', _, q, _⟩ := hbi.out.rows s hs; have : b' = g5 := congrArg Addr.block (Option.some.inj (e'.symm.trans e)); have := q.1; omega⟩
      have HBI : Shut (BI w w5 v ts) := ⟨hbi.out.below hb5⟩
      have hs5 : w.heap.size ≤ w5.heap.size := HBI.out.bel.size
      have hown := HBI.out.own
      clear hown5 hgrow5 hb5 hbi HNUM d0 lr l1
      go_wp2_with (at_builtin; refine wpList_append_own _ rfl _ _ 36 rfl w.heap.size 32 i0 (.slice none 0 0) 1 24 Try.underlying36 hi0 hz0 hz1 hz2 rfl (by decide) _ _ _ rfl (hown.alloc _) ⟨w5.heap.size, 0, none⟩ 1 1 [.slice (some ⟨g5, 0, none⟩) n cp5] rfl rfl (cell_one_new _ _ _) ?c2 ?c3 ?c4 ?c5 ?_)
      case c2 => first | rfl | (intro u hu; simp at hu; subst hu; rfl)
      case c3 => unfold maxLen; have := HI.out; omega
      case c4 => have := HI.out; omega
      case c5 => first | omega | (simp; omega)
      intro v' w6 hown' hgrow _
      have hlen : r.length = n := HRE.out.2
      have hnil : r ≠ [] := fun e => by rw [e] at hlen; simp at hlen; omega
      have hap := HBI.out.append (cap := cp5) (by omega) HROW.out hnil (by rw [hlen]; exact hcp5) HNEW.out.1 HNEW.out.2 (by rw [hlen]; exact hown') hgrow
      have HAP : Shut (BI w w6 v' (ts ++ [SR.mk (some ⟨g5, 0, none⟩) (r) cp5])) := ⟨hap⟩
      have HR2 : Shut (rws (ts ++ [SR.mk (some ⟨g5, 0, none⟩) (r) cp5]) = X.take (i + 1)) := ⟨by
        have hix : i < X.length := by rw [HX.out.2.2.1]; exact hlt
        rw [rws_snoc, hr.out, ← HI.out, List.take_succ_eq_append_getElem hix]
        congr 2
        rw [HRE.out.1]
        simp [List.getD, hix]⟩
      clear hap hown' hgrow hown HBI HROW HNEW hr hlen hnil hxl
      go_wp2_with fail
      go_roundw
      case rel => exact ⟨_, v', rfl, by rw [List.length_append, List.length_singleton, ← HI.out]; go_num, by rw [List.length_append, List.length_singleton, ← HI.out]; omega, ⟨by rw [List.length_append, List.length_singleton, ← HI.out]; exact HR2.out⟩, HAP⟩
      case measure => simp [intOf]; omega
    · have e : i = n := by omega
      have hlt' : ¬ (i : Int) < (n : Int) := by omega
      have hln : ts.length = n := by rw [← HI.out, e]
      have hXr : rws ts = X := by rw [hr.out, hln, ← HX.out.2.2.1, List.take_length]
      obtain ⟨ga, capA, rfl, hcapA⟩ := own_some hbi.out.own (by omega)
      have hbi2 := hbi.out
      rw [hln] at hbi2 ⊢
      have HBI : Shut (BI w wo (.slice (some ⟨ga, 0, none⟩) n capA) ts ∧ ts.length = n ∧ rws ts = X) := ⟨hbi2, hln, hXr⟩
      clear hbi2 hbi hr hXr hln HI hcapA
      go_wp2_with fail
      refine (specOneM (n : Int) _).mono ?_
      rintro e w2 ⟨v2, rfl, hv2, hb2⟩
      obtain ⟨gb, capB, ssB, rfl, hcapB, hrB, hapB, htwo⟩ := two_start HBI.out.1 HBI.out.2.1 (by omega) (by rw [(mx_one hn1 hn8).1]; simp) hb2 hv2
      have HT : Shut (Two w w2 ga gb ts ssB) := ⟨htwo⟩
      have HP : Shut (Pu n 0 (mx X) ts ssB) := ⟨Pu.start HX.out.1 hn1 hn8 HBI.out.2.2 hrB hapB⟩
      clear hv2 hb2 hrB hapB htwo HBI
      go_wp2_with fail
      go_loopw [8] (fun cc wr => ∃ (c : Nat) (ssA ssB : List SR), cc = .int .i64 c ∧ c ≤ n ∧ Shut (Two w wr ga gb ssA ssB) ∧ Shut (Pu n c (mx X) ssA ssB)) (fun cc _ => n - (intOf cc).toNat)
      case atStart => exact ⟨0, ts, ssB, rfl, by omega, HT, HP⟩
      case round =>
        clear HT HP
        obtain ⟨c, ssA, ssB, rfl, hcn, hT, hP⟩ := hrel
        obtain ⟨wc, rfl⟩ : ∃ wc, wc = wr := ⟨_, rfl⟩
        by_cases hlt : c < n
        · have hlt2 : (c : Int) < (n : Int) := by omega
          have c0 : (0 : Int) ≤ (c : Int) := by omega
          go_wp2_with fail
          go_loop [9] (fun pp => ∃ p : Nat, pp = .int .i64 p ∧ c ≤ p ∧ p ≤ n ∧ Shut (∀ q, c ≤ q → q < p → mx (rws ssA) q c = 0#8)) (fun pp => n - (intOf pp).toNat)
          case atStart => exact ⟨c, rfl, by omega, by omega, ⟨fun q h1 h2 => by omega⟩⟩
          case round =>
            obtain ⟨p, rfl, hcp, hpn, hz⟩ := hrel
            by_cases hpl : p < n
            · have hpl2 : (p : Int) < (n : Int) := by omega
              have p0 : (0 : Int) ≤ (p : Int) := by omega
              obtain ⟨bp, cpp, gp⟩ := hT.out.gotA hP.out.sa hpl
              have dp := gp.cell
              have dx := gp.num c hlt
              have lga : ga < wc.heap.size := hT.out.outA.1
              have hzero := hP.out.sa.zero hpl hlt
              obtain ⟨x, hx⟩ : ∃ x, x = ((rws ssA).getD p []).getD c 0 := ⟨_, rfl⟩
              rw [← hx] at dx hzero
              have GP : Shut (RowGot w wc ga gb n ga p bp cpp ssA) := ⟨gp⟩
              clear gp hx
              by_cases hx0 : x = 0
              · have hxb : (x == 0) = true := by rw [hx0]; rfl
                have HZ : Shut (∀ q, c ≤ q → q < p + 1 → mx (rws ssA) q c = 0#8) := ⟨fun q h1 h2 => by
                  by_cases e : q = p
                  · rw [e]; exact hzero.1 hx0
                  · exact hz.out q h1 (by omega)⟩
                clear hx0 hzero hz
                go_wp2_with fail
                go_round
                case rel => exact ⟨p + 1, by go_num, by omega, by omega, HZ⟩
                case measure => simp [intOf]; omega
              · have hxb : (x == 0) = false := by rw [beq_eq_false_iff_ne]; exact hx0
                have hpe : ((p : Int) == (n : Int)) = false := by rw [beq_eq_false_iff_ne]; omega
                have HNZ : Shut (mx (rws ssA) p c ≠ 0#8) := ⟨fun e => hx0 (hzero.2 e)⟩
                obtain ⟨bc, cpc, gc⟩ := hT.out.gotA hP.out.sa hlt
                have dc := gc.cell
                have fp := GP.out.free
                have GC : Shut (RowGot w wc ga gb n ga c bc cpc ssA) := ⟨gc⟩
                clear hx0 hzero hz gc
                go_upto_region 20 with fail
                obtain ⟨w3, hw3⟩ : ∃ w3, w3 = wc.setCell ⟨ga, p, none⟩ (.slice (some ⟨bc, 0, none⟩) n cpc) := ⟨_, rfl⟩
                have T3 : Two w w3 ga gb (ssA.set p (ssA.getD c default)) ssB := by rw [hw3]; exact hT.out.setA GP.out.lt GC.out.val GC.out.row
                have R3 : RowIn w w3 ga gb (ssA.getD p default) := by rw [hw3]; exact GP.out.row.setA p _
                rw [← hw3]
                obtain ⟨q3, z3, f3⟩ := T3.freeA (i := c) (by rw [List.length_set]; exact GC.out.lt)
                have l3 : ga < w3.heap.size := T3.outA.1
                have HT3 : Shut (Two w w3 ga gb (ssA.set p (ssA.getD c default)) ssB ∧ RowIn w w3 ga gb (ssA.getD p default)) := ⟨T3, R3⟩
                clear hw3 T3 R3 dp dc dx fp lga
                go_upto_region 21 with fail
                obtain ⟨w4, hw4⟩ : ∃ w4, w4 = w3.setCell ⟨ga, c, none⟩ (.slice (some ⟨bp, 0, none⟩) n cpp) := ⟨_, rfl⟩
                have T4 : Two w w4 ga gb (swapS p c ssA) ssB := by rw [hw4]; exact HT3.out.1.setA (by rw [List.length_set]; exact GC.out.lt) GP.out.val HT3.out.2
                rw [← hw4]
                obtain ⟨bq, cpq, gq⟩ := T4.gotB hP.out.sb hpl
                obtain ⟨bd, cpd, gd⟩ := T4.gotB hP.out.sb hlt
                have d4 := gq.cell
                have e4 := gd.cell
                have f4 := gq.free
                have l4 : gb < w4.heap.size := T4.outB.1
                have HT4 : Shut (Two w w4 ga gb (swapS p c ssA) ssB) := ⟨T4⟩
                have GQ : Shut (RowGot w w4 ga gb n gb p bq cpq ssB) := ⟨gq⟩
                have GD : Shut (RowGot w w4 ga gb n gb c bd cpd ssB) := ⟨gd⟩
                clear hw4 T4 gq gd z3 f3 l3 HT3
                go_upto_region 23 with fail
                obtain ⟨w5, hw5⟩ : ∃ w5, w5 = w4.setCell ⟨gb, p, none⟩ (.slice (some ⟨bd, 0, none⟩) n cpd) := ⟨_, rfl⟩
                have T5 : Two w w5 ga gb (swapS p c ssA) (ssB.set p (ssB.getD c default)) := by rw [hw5]; exact HT4.out.setB GQ.out.lt GD.out.val GD.out.row
                have R5 : RowIn w w5 ga gb (ssB.getD p default) := by rw [hw5]; exact GQ.out.row.setB p _
                rw [← hw5]
                obtain ⟨q5, z5, f5⟩ := T5.freeB (i := c) (by rw [List.length_set]; exact GD.out.lt)
                have l5 : gb < w5.heap.size := T5.outB.1
                have HT5 : Shut (Two w w5 ga gb (swapS p c ssA) (ssB.set p (ssB.getD c default)) ∧ RowIn w w5 ga gb (ssB.getD p default)) := ⟨T5, R5⟩
                clear hw5 T5 R5 d4 e4 f4 l4
                go_upto_region 24 with fail
                obtain ⟨w6, hw6⟩ : ∃ w6, w6 = w5.setCell ⟨gb, c, none⟩ (.slice (some ⟨bq, 0, none⟩) n cpq) := ⟨_, rfl⟩
                have T6 : Two w w6 ga gb (swapS p c ssA) (swapS p c ssB) := by rw [hw6]; exact HT5.out.1.setB (by rw [List.length_set]; exact GD.out.lt) GQ.out.val HT5.out.2
                rw [← hw6]
                have P6 := hP.out.swap hlt hpl hcp
                have N6 : mx (rws (swapS p c ssA)) c c ≠ 0#8 := by rw [mx_swap_c hP.out.sa hlt hpl]; exact HNZ.out
                clear hw6 HT4 HT5 GQ GD GP GC hP hT HNZ z5 f5 l5
                generalize swapS p c ssA = sA at *
                generalize swapS p c ssB = sB at *
                obtain ⟨bA, cpA, gA⟩ := T6.gotA P6.sa hlt
                have d6 := gA.cell
                have x6 := gA.num c hlt
                have l6 : ga < w6.heap.size := T6.outA.1
                have xe := mx_is (rws sA) c c
                generalize ((rws sA).getD c []).getD c 0 = y at *
                have HINV : Shut (∀ w : World, Calls Try.prog 52 #[.int .i64 y] w fun e w' => e = .returned (.int .i64 ((W.gi (g8 y)).toNat : Int)) ∧ w' = w) := ⟨specInvG y⟩
                have HY : Shut (g8 y = mx (rws sA) c c ∧ g8 y ≠ 0#8) := ⟨xe.symm, by rw [← xe]; exact N6⟩
                have HT6 : Shut (Two w w6 ga gb sA sB ∧ Pu n c (mx X) sA sB) := ⟨T6, P6⟩
                have GA : Shut (RowGot w w6 ga gb n ga c bA cpA sA) := ⟨gA⟩
                clear T6 P6 N6 gA xe
                go_wp2_with fail
                refine (HINV.out _).mono ?_
                rintro e w7 ⟨rfl, hw7⟩
                obtain rfl : w6 = w7 := hw7.symm
                obtain ⟨s, hs⟩ : ∃ s, s = W.gi (g8 y) := ⟨_, rfl⟩
                have HS : Shut (s = W.gi (g8 y)) := ⟨hs⟩
                rw [← hs]
                clear hs hw7 HINV
                go_wp2_with fail
                refine (times_at GA.out HT6.out.2.sa hlt hn8 s _ (Below.refl _ _)).mono ?_
                rintro e w8 ⟨g8', cp8, rfl, hg8, hr8, hc8, hb8⟩
                have T8 := HT6.out.1.below hb8
                have N8 := row_new HT6.out.1 hg8 hr8 (by rw [timesL_len, (HT6.out.2.sa.at hlt).1]; exact hc8)
                obtain ⟨q8, z8, f8⟩ := T8.freeA (i := c) GA.out.lt
                have l8 : ga < w8.heap.size := T8.outA.1
                have HT8 : Shut (Two w w8 ga gb sA sB ∧ RowIn w w8 ga gb ⟨some ⟨g8', 0, none⟩, timesL s ((rws sA).getD c []), cp8⟩) := ⟨T8, N8⟩
                clear hg8 hr8 hc8 hb8 T8 N8 d6 x6 l6
                go_upto_region 26 with fail
                obtain ⟨w9, hw9⟩ : ∃ w9, w9 = w8.setCell ⟨ga, c, none⟩ (.slice (some ⟨g8', 0, none⟩) n cp8) := ⟨_, rfl⟩
                have T9 : Two w w9 ga gb (sA.set c ⟨some ⟨g8', 0, none⟩, timesL s ((rws sA).getD c []), cp8⟩) sB := by rw [hw9]; exact HT8.out.1.setA GA.out.lt (srv_is g8' n cp8 _ (by rw [timesL_len]; exact (HT6.out.2.sa.at hlt).1)) HT8.out.2
                rw [← hw9]
                obtain ⟨bB, cpB, gB⟩ := T9.gotB HT6.out.2.sb hlt
                have d9 := gB.cell
                have l9 : gb < w9.heap.size := T9.outB.1
                have HT9 : Shut (Two w w9 ga gb (sA.set c ⟨some ⟨g8', 0, none⟩, timesL s ((rws sA).getD c []), cp8⟩) sB) := ⟨T9⟩
                have GB : Shut (RowGot w w9 ga gb n gb c bB cpB sB) := ⟨gB⟩
                clear hw9 T9 gB z8 f8 l8 HT8 GA
                go_wp2_with fail
                refine (times_at GB.out HT6.out.2.sb hlt hn8 s _ (Below.refl _ _)).mono ?_
                rintro e w10 ⟨g10, cp10, rfl, hg10, hr10, hc10, hb10⟩
                have T10 := HT9.out.below hb10
                have N10 := row_new HT9.out hg10 hr10 (by rw [timesL_len, (HT6.out.2.sb.at hlt).1]; exact hc10)
                obtain ⟨q10, z10, f10⟩ := T10.freeB (i := c) GB.out.lt
                have l10 : gb < w10.heap.size := T10.outB.1
                have HT10 : Shut (Two w (w10.setCell ⟨gb, c, none⟩ (.slice (some ⟨g10, 0, none⟩) n cp10)) ga gb (sA.set c ⟨some ⟨g8', 0, none⟩, timesL s ((rws sA).getD c []), cp8⟩) (sB.set c ⟨some ⟨g10, 0, none⟩, timesL s ((rws sB).getD c []), cp10⟩)) := ⟨T10.setB GB.out.lt (srv_is g10 n cp10 _ (by rw [timesL_len]; exact (HT6.out.2.sb.at hlt).1)) N10⟩
                have HP10 : Shut (Pu n c (mx X) (sA.set c ⟨some ⟨g8', 0, none⟩, timesL s ((rws sA).getD c []), cp8⟩) (sB.set c ⟨some ⟨g10, 0, none⟩, timesL s ((rws sB).getD c []), cp10⟩) ∧ ColDone n c 0 (mx (rws (sA.set c ⟨some ⟨g8', 0, none⟩, timesL s ((rws sA).getD c []), cp8⟩)))) := ⟨HT6.out.2.times hlt HY.out.1 HY.out.2 (by rw [HS.out]) (by rw [HS.out]) (HT9.out.newB hg10)⟩
                clear hg10 hr10 hc10 hb10 T10 N10 d9 l9 HT9 GB HT6 HS HY
                generalize sA.set c ⟨some ⟨g8', 0, none⟩, timesL s ((rws sA).getD c []), cp8⟩ = sA at *
                generalize sB.set c ⟨some ⟨g10, 0, none⟩, timesL s ((rws sB).getD c []), cp10⟩ = sB at *
                go_wp2_with fail
                go_loopw [13] (fun ii wr => ∃ (i : Nat) (tA tB : List SR), ii = .int .i64 i ∧ i ≤ n ∧ Shut (Two w wr ga gb tA tB) ∧ Shut (Pu n c (mx X) tA tB ∧ ColDone n c i (mx (rws tA)))) (fun ii _ => n - (intOf ii).toNat)
                case atStart => exact ⟨0, sA, sB, rfl, by omega, HT10, HP10⟩
                case round =>
                  clear HT10 HP10 z10 f10 l10
                  obtain ⟨i, tA, tB, rfl, hin, hT, hP⟩ := hrel
                  obtain ⟨wi, rfl⟩ : ∃ wi, wi = wr := ⟨_, rfl⟩
                  by_cases hil : i < n
                  · have hil2 : (i : Int) < (n : Int) := by omega
                    have i0' : (0 : Int) ≤ (i : Int) := by omega
                    by_cases hic : i = c
                    · have hne2 : ((i : Int) != (c : Int)) = false := by rw [bne_eq_false_iff_eq]; omega
                      have HPN : Shut (Pu n c (mx X) tA tB ∧ ColDone n c (i + 1) (mx (rws tA))) := ⟨hP.out.1, hP.out.2.skip (.inl hic)⟩
                      clear hic hP
                      go_wp2_with fail
                      go_roundw
                      case rel => exact ⟨i + 1, tA, tB, by go_num, by omega, hT, HPN⟩
                      case measure => simp [intOf]; omega
                    · have hne2 : ((i : Int) != (c : Int)) = true := by rw [bne_iff_ne]; omega
                      obtain ⟨bi, cpi, gi⟩ := hT.out.gotA hP.out.1.sa hil
                      have di := gi.cell
                      have dt := gi.num c hlt
                      have lga : ga < wi.heap.size := hT.out.outA.1
                      have hzero := hP.out.1.sa.zero hil hlt
                      have xe := mx_is (rws tA) i c
                      generalize ((rws tA).getD i []).getD c 0 = t at *
                      have GI : Shut (RowGot w wi ga gb n ga i bi cpi tA) := ⟨gi⟩
                      clear gi
                      by_cases ht0 : t = 0
                      · have htb : (t != 0) = false := by rw [ht0]; rfl
                        have HPN : Shut (Pu n c (mx X) tA tB ∧ ColDone n c (i + 1) (mx (rws tA))) := ⟨hP.out.1, hP.out.2.skip (.inr (hzero.1 ht0))⟩
                        clear ht0 hP hzero xe
                        go_wp2_with fail
                        go_roundw
                        case rel => exact ⟨i + 1, tA, tB, by go_num, by omega, hT, HPN⟩
                        case measure => simp [intOf]; omega
                      · have htb : (t != 0) = true := by rw [bne_iff_ne]; exact ht0
                        have HTE : Shut (g8 t = mx (rws tA) i c) := ⟨xe.symm⟩
                        obtain ⟨bk, cpk, gk⟩ := hT.out.gotA hP.out.1.sa hlt
                        have dk := gk.cell
                        have fi := GI.out.free
                        have GK : Shut (RowGot w wi ga gb n ga c bk cpk tA) := ⟨gk⟩
                        clear ht0 hzero xe gk
                        go_wp2_with fail
                        have lga2 := lga
                        go_region_with ((go_at_call 76; refine (plus_at GI.out GK.out hP.out.1.sa hil hlt hn8 t _ ?_).mono ?_; (first | exact Below.refl _ _ | exact Below.drew (Below.refl _ _)); rintro e w11 ⟨g11, cp11, rfl, hg11, hr11, hc11, hb11⟩; have z11 := (GI.out.below lga2 (by first | exact hb11 | exact (Below.drew (Below.refl _ _)).trans hb11)).cell; have f11 := (GI.out.below lga2 (by first | exact hb11 | exact (Below.drew (Below.refl _ _)).trans hb11)).free; have l11 := Nat.lt_of_lt_of_le lga2 hb11.size))
                        all_goals
                          have hb12 : Below wi.heap.size wi w11 := (Below.drew (Below.refl wi.heap.size wi)).trans hb11
                          have T12 := (hT.out.below hb12).setA GI.out.lt (srv_is g11 n cp11 (plusL (g8 t) ((rws tA).getD i []) ((rws tA).getD c [])) (by rw [plusL_len]; exact (hP.out.1.sa.at hil).1)) (row_new hT.out hg11 hr11 (by rw [plusL_len, (hP.out.1.sa.at hil).1]; exact hc11))
                          obtain ⟨w12, hw12⟩ : ∃ w12, w12 = w11.setCell ⟨ga, i, none⟩ (.slice (some ⟨g11, 0, none⟩) n cp11) := ⟨_, rfl⟩
                          rw [← hw12] at T12 ⊢
                          obtain ⟨bm, cpm, gm⟩ := T12.gotB hP.out.1.sb hil
                          obtain ⟨bo, cpo, go⟩ := T12.gotB hP.out.1.sb hlt
                          have d12 := gm.cell
                          have e12 := go.cell
                          have f12 := gm.free
                          have l12 : gb < w12.heap.size := T12.outB.1
                          have HT12 : Shut (Two w w12 ga gb (tA.set i ⟨some ⟨g11, 0, none⟩, plusL (g8 t) ((rws tA).getD i []) ((rws tA).getD c []), cp11⟩) tB) := ⟨T12⟩
                          have GM : Shut (RowGot w w12 ga gb n gb i bm cpm tB) := ⟨gm⟩
                          have GO : Shut (RowGot w w12 ga gb n gb c bo cpo tB) := ⟨go⟩
                          clear hb12 T12 hw12 gm go hg11 hr11 hc11 hb11 z11 f11 l11 lga lga2 di dk dt fi GI GK
                          go_wp2_with fail
                          go_region_with ((go_at_call 76; refine (plus_at GM.out GO.out hP.out.1.sb hil hlt hn8 t _ ?_).mono ?_; (first | exact Below.refl _ _ | exact Below.drew (Below.refl _ _)); rintro e w13 ⟨g13, cp13, rfl, hg13, hr13, hc13, hb13⟩; have z13 := (GM.out.below l12 (by first | exact hb13 | exact (Below.drew (Below.refl _ _)).trans hb13)).cell; have f13 := (GM.out.below l12 (by first | exact hb13 | exact (Below.drew (Below.refl _ _)).trans hb13)).free; have l13 := Nat.lt_of_lt_of_le l12 hb13.size))
                          all_goals
                            have hb14 : Below w12.heap.size w12 w13 := (Below.drew (Below.refl w12.heap.size w12)).trans hb13
                            have T14 := (HT12.out.below hb14).setB GM.out.lt (srv_is g13 n cp13 (plusL (g8 t) ((rws tB).getD i []) ((rws tB).getD c [])) (by rw [plusL_len]; exact (hP.out.1.sb.at hil).1)) (row_new HT12.out hg13 hr13 (by rw [plusL_len, (hP.out.1.sb.at hil).1]; exact hc13))
                            have HT14 : Shut (Two w (w13.setCell ⟨gb, i, none⟩ (.slice (some ⟨g13, 0, none⟩) n cp13)) ga gb (tA.set i ⟨some ⟨g11, 0, none⟩, plusL (g8 t) ((rws tA).getD i []) ((rws tA).getD c []), cp11⟩) (tB.set i ⟨some ⟨g13, 0, none⟩, plusL (g8 t) ((rws tB).getD i []) ((rws tB).getD c []), cp13⟩)) := ⟨T14⟩
                            have HP14 : Shut (Pu n c (mx X) (tA.set i ⟨some ⟨g11, 0, none⟩, plusL (g8 t) ((rws tA).getD i []) ((rws tA).getD c []), cp11⟩) (tB.set i ⟨some ⟨g13, 0, none⟩, plusL (g8 t) ((rws tB).getD i []) ((rws tB).getD c []), cp13⟩) ∧ ColDone n c (i + 1) (mx (rws (tA.set i ⟨some ⟨g11, 0, none⟩, plusL (g8 t) ((rws tA).getD i []) ((rws tA).getD c []), cp11⟩)))) := ⟨hP.out.1.plus hlt hil hic hP.out.2 HTE.out rfl rfl (HT12.out.newB hg13)⟩
                            clear hb14 T14 hg13 hr13 hc13 hb13 z13 f13 l13 GM GO HT12 HTE d12 e12 f12 l12
                            go_wp2_with fail
                            go_roundw
                            case rel => exact ⟨i + 1, _, _, by go_num, by omega, HT14, HP14⟩
                            case measure => simp [intOf]; omega
                  · have e : i = n := by omega
                    have hil2 : ¬ (i : Int) < (n : Int) := by omega
                    have HPN : Shut (Pu n (c + 1) (mx X) tA tB) := ⟨by have h := hP.out.2; rw [e] at h; exact hP.out.1.next h⟩
                    clear hP e
                    go_wp2_with fail
                    go_roundw
                    case rel => exact ⟨c + 1, tA, tB, by go_num, by omega, hT, HPN⟩
                    case measure => simp [intOf]; omega
            · have e : p = n := by omega
              have hpl2 : ¬ (p : Int) < (n : Int) := by omega
              have hpe : ((p : Int) == (n : Int)) = true := by rw [beq_iff_eq]; omega
              have HNO : Shut (invX X = ([], false)) := ⟨invX_no (hP.out.none HX.out.2.2.1 hlt (fun i h1 h2 => hz.out i h1 (by omega)))⟩
              have HB : Shut (Below w.heap.size w wc) := ⟨hT.out.bel⟩
              clear e hz hT hP
              go_wp2_with fail
              go_ret2
              exact invPost_no HNO.out rfl (HB.out.alloc HB.out.size _)
        · have e : c = n := by omega
          have hlt2 : ¬ (c : Int) < (n : Int) := by omega
          have HI2 : Shut (IsInv X (rws ssB)) := ⟨by have h := hP.out; rw [e] at h; exact h.done HX.out.2.1 HX.out.2.2.1 HX.out.2.2.2⟩
          have HF : Shut (MAns wc (.slice (some ⟨gb, 0, none⟩) n capB) (rws ssB) w.heap.size wc.heap.size) := ⟨hT.out.fin hP.out.ap hP.out.lenB hcapB⟩
          have HB : Shut (Below w.heap.size w wc) := ⟨hT.out.bel⟩
          clear e hT hP
          go_wp2_with fail
          go_ret2
          exact invPost_yes HI2.out rfl HF.out HB.out
end Go.Proofs.Ytdlgailodhlbmaa
