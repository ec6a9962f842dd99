/- Texts of ours, laid one behind the other: LawSch, FieldP, ByA, PrC, PrD, PrE, PrB. -/
import Derived.Test.YtdlgailodhlbmaaPq5
import Derived.Deep.CutRange
import Derived.Deep.RegionHeld3
import Derived.Handy
/- LawSch: The walk of the law over schemas, over what is told of the program's own functions. -/
namespace Go.Proofs.Ytdlgailodhlbmaa
open Go.RowKit
open W (B8 Mx)
theorem sch_km {s : Int} (h : schOk s = true) : (schK s = 2 ∧ schM s = 1) ∨ (schK s = 3 ∧ schM s = 2) ∨ (schK s = 4 ∧ schM s = 2) := by
  rcases sch_cases h with rfl | rfl | rfl <;> decide
theorem sch_none : schOk 0 = false ∧ codeX 4 = [] := ⟨by decide, codeX_no (by decide)⟩
attribute [local go_sem ↓] Go.wp_at_zero Go.wp_at_succ
attribute [local irreducible] W.gm W.xs W.mm W.gi mx invX oneX matOk xsum appX tsum codeX encX decX rebX schK schM schOk

theorem wanted_go {c : Prop} [Decidable c] {p q : Prop} (h : c) (hp : p) : if c then p else q := by rw [if_pos h]; exact hp
/-- Rows that were picked so far, shared with where they lie. -/
structure PickS (w wr : World) (v : Value) (ts : List SR) : Prop where
  own : wr.ownsRow w.heap.size 32 1 v ts.length (svs ts)
  rows : ∀ s ∈ ts, RRow w s.loc (ics s.row) 0 w.heap.size
  bel : Below w.heap.size w wr
structure SchAll : Prop where
  sch : ∀ (s : Int) (w : World), Calls Try.prog 12 #[.int .i64 s] w fun e w' => SchB s w e w'
  code : ∀ (s : Int) (w : World), Calls Try.prog 19 #[.int .i64 s] w fun e w' => MPost (codeX s) w e w'
  inv : ∀ (w : World) (v : Value) (X : List (List Int)) (lo hi : Nat), MSee w v X lo hi → MFit X → Calls Try.prog 23 #[v] w fun e w' => InvPost X w e w'
theorem MSee.part {w : World} {a : Option Addr} {cap k : Nat} {X : List (List Int)} {lo hi : Nat} (h : MSee w (.slice a X.length cap) X lo hi) (hk : k ≤ X.length) : MSee w (.slice a k cap) (X.take k) lo hi := by
  obtain ⟨a', cap', ss, e, hr, hm⟩ := h
  simp only [Value.slice.injEq] at e
  obtain ⟨rfl, e2, rfl⟩ := e
  have hl : ss.length = X.length := by rw [← hr, rws_len]
  refine ⟨a, cap, ss.take k, by rw [List.length_take]; congr 1; omega, by unfold rws at *; rw [List.map_take, hr], ?_, fun s hs => hm.2 s (List.mem_of_mem_take hs)⟩
  intro hp
  have hp' : 0 < (svs ss).length := by rw [svs_len] at *; rw [List.length_take] at hp; omega
  obtain ⟨b, off, e, q1, q2, q3, q4⟩ := hm.1 hp'
  refine ⟨b, off, e, q1, q2, q3, fun i v hv => q4 i v ?_⟩
  unfold svs at *
  rw [List.map_take] at hv
  rw [List.getElem?_take] at hv
  split at hv
  · exact hv
  · cases hv
set_option maxRecDepth 1000000 in
set_option maxHeartbeats 8000000 in
theorem schemas_walk (h : SchAll) (a : Option Addr) (len cap : Nat) (w : World) (hcode : CodeAt w w.heap.size a len) :
    Calls Try.prog 4 #[.slice a len cap] w fun e w' => e = .returned (.bool true) ∧ Below w.heap.size w w' := by
  have hbig : decide ((1048576 : Int) < (len : Int)) = false := by have := hcode.1; simp; omega
  obtain ⟨i1, hi1, hy0, hy1, hy2⟩ := info_parts infoRow
  have HC : Hid (CodeAt w w.heap.size a len) := hcode
  have HH := Shut.mk h
  clear hcode h
  go_enter Try.func4, Try.ntmps4
  go_wp2_with fail
  refine (big_any a len cap _).mono ?_
  rintro e w1 ⟨rfl, hw1⟩
  obtain rfl : w = w1 := hw1.symm
  clear hw1
  rw [hbig]
  go_wp2_with fail
  refine (drawPlaces_any _ a len cap HC.out).mono ?_
  rintro e w1 ⟨gp, pcap, l, rfl, hgp, hgp2, hll, hlx, hcell, hb1⟩
  have y0 := hcell 0 (by omega)
  have y1 := hcell 1 (by omega)
  have y2 := hcell 2 (by omega)
  have q0 : 0 ≤ l.getD 0 0 ∧ l.getD 0 0 < 10000 := hlx _ (by simp [List.getD, hll])
  have q1 : 0 ≤ l.getD 1 0 ∧ l.getD 1 0 < 10000 := hlx _ (by simp [List.getD, hll])
  have q2 : 0 ≤ l.getD 2 0 ∧ l.getD 2 0 < 10000 := hlx _ (by simp [List.getD, hll])
  generalize l.getD 0 0 = x0 at *
  generalize l.getD 1 0 = x1 at *
  generalize l.getD 2 0 = x2 at *
  have HB := Shut.mk hb1
  have HY := Shut.mk (And.intro y1 y2)
  clear hcell hll hlx hb1 HC y1 y2
  go_wp2_with fail
  obtain ⟨s, hse⟩ : ∃ s, s = 1 + x0 % 3 := ⟨_, rfl⟩
  rw [← hse]
  have hsok : schOk s = true := by unfold schOk; simp only [Bool.or_eq_true, decide_eq_true_eq]; omega
  obtain ⟨c1, c2, c3, c4⟩ := sch_bounds hsok
  have HOK := Shut.mk hsok
  have hkm : (schK s = 2 ∧ schM s = 1) ∨ (schK s = 3 ∧ schM s = 2) ∨ (schK s = 4 ∧ schM s = 2) := sch_km hsok
  have HSC := Shut.mk (HH.out.sch s)
  have HCO := Shut.mk (HH.out.code s)
  have HSP := Shut.mk (specCodeOf s)
  have HONE := Shut.mk (specOneM (schK s : Nat))
  have HLEN := Shut.mk (codeX_len hsok)
  have HSTA := Shut.mk (codeX_start hsok)
  have HFIT := Shut.mk (codeX_fit hsok)
  have HAT := Shut.mk (fun i (hi : i < schK s + schM s) => codeX_at hsok hi)
  have HINV := Shut.mk (fun (I : List Nat) (hs : I.Sublist (List.range (schK s + schM s))) (hl : I.length = schK s) => any_inv hsok hs hl)
  have HFI := Shut.mk (fun (I : List Nat) (hI : I.length ≤ 8) (hm : ∀ i ∈ I, i < schK s + schM s) => rowsP_fit hsok hI hm)
  unfold SchB at HSC
  rw [hsok] at HSC
  obtain ⟨k, hk⟩ : ∃ k, k = schK s := ⟨_, rfl⟩
  obtain ⟨m, hm⟩ : ∃ m, m = schM s := ⟨_, rfl⟩
  rw [← hk] at HSC HONE HLEN HSTA HAT HINV HFI c1 c2 hkm
  rw [← hm] at HSC HLEN HAT HINV HFI c3 c4 hkm
  clear hk hm hse hsok y0 q0
  refine (HSC.out _).mono ?_
  rintro e w2 ⟨rfl, hb2⟩
  have HY2 := Shut.mk (show w2.cell? ⟨gp, 1, none⟩ = some (.int .i64 x1) ∧ w2.cell? ⟨gp, 2, none⟩ = some (.int .i64 x2) from ⟨(hb2.cell (p := ⟨gp, 1, none⟩) hgp2).trans HY.out.1, (hb2.cell (p := ⟨gp, 2, none⟩) hgp2).trans HY.out.2⟩)
  have gp2 : gp < w2.heap.size := Nat.lt_of_lt_of_le hgp2 hb2.size
  have HB2 := Shut.mk (HB.out.trans (hb2.mono HB.out.size))
  clear hb2 HB HY hgp2
  go_wp2_with fail
  refine (HCO.out _).mono ?_
  rintro e w3 ⟨vr, rfl, ha3, hb3⟩
  have HY3 := Shut.mk (show w3.cell? ⟨gp, 1, none⟩ = some (.int .i64 x1) ∧ w3.cell? ⟨gp, 2, none⟩ = some (.int .i64 x2) from ⟨(hb3.cell (p := ⟨gp, 1, none⟩) gp2).trans HY2.out.1, (hb3.cell (p := ⟨gp, 2, none⟩) gp2).trans HY2.out.2⟩)
  have gp3 : gp < w3.heap.size := Nat.lt_of_lt_of_le gp2 hb3.size
  have HB3 := Shut.mk (HB2.out.trans (hb3.mono HB2.out.size))
  obtain ⟨ar, cr, ss, rfl, hrr, hcr, qr⟩ := ha3
  have hsl : ss.length = k + m := by rw [← rws_len, hrr, HLEN.out]
  obtain ⟨gr, rfl, hmw⟩ : ∃ gr, ar = some ⟨gr, 0, none⟩ ∧ MW w3 gr ss w2.heap.size w3.heap.size := by
    rcases qr with rfl | qr
    · simp at hsl; omega
    · exact qr
  obtain ⟨n, hn⟩ : ∃ n, n = k + m := ⟨_, rfl⟩
  have hni : (k : Int) + (m : Int) = (n : Int) := by omega
  have hnn : ((n : Int) != (n : Int)) = false := by simp
  rw [← hn] at HLEN HAT HINV HFI hsl
  have hkn : k ≤ n := by omega
  have hn6 : n ≤ 6 := by omega
  have HMR := Shut.mk hmw.mr
  have HRR := Shut.mk (And.intro hrr hsl)
  have hcr' : n ≤ cr := by omega
  rw [hsl]
  have FR : Shut (MSee w3 (.slice (some ⟨gr, 0, none⟩) n cr) (codeX s) w2.heap.size w3.heap.size) := ⟨⟨_, _, ss, by rw [hsl], hrr, hmw.mr⟩⟩
  have hcrI : (n : Int) ≤ (cr : Int) := by omega
  have hkc : (k : Int) ≤ (cr : Int) := by omega
  have hk0 : (0 : Int) ≤ (k : Int) := by omega
  have HFO : Shut (MFit (oneX (k : Nat))) := ⟨fit_one _⟩
  have FK : Shut (MSee w3 (.slice (some ⟨gr, 0, none⟩) k cr) (oneX (k : Nat)) w2.heap.size w3.heap.size) := ⟨by
    have q := FR.out
    rw [← HLEN.out] at q
    have q2 := q.part (k := k) (by rw [HLEN.out]; exact hkn)
    rw [HSTA.out] at q2
    exact q2⟩
  have hkmn : (k = 2 ∧ m = 1 ∧ n = 3) ∨ (k = 3 ∧ m = 2 ∧ n = 5) ∨ (k = 4 ∧ m = 2 ∧ n = 6) := by omega
  clear hb3 HB2 HY2 gp2 qr hmw hrr hcr hsl HSC hn hni hkm hnn
  rcases hkmn with ⟨rfl, rfl, rfl⟩ | ⟨rfl, rfl, rfl⟩ | ⟨rfl, rfl, rfl⟩
  · have hc2 : (2 : Int) ≤ (cr : Int) := by omega
    have hc3 : ¬ (cr : Int) < 2 := by omega
    have hcn : 3 ≤ cr := hcr'
    clear hkn hn6 hcr' hk0 c1 c2 c3 c4 hkc hcrI
    go_upto_region 7 with fail
    go_cut [58] from 33 (fun b wx => b = .bool false ∧ Shut (Below w3.heap.size w3 wx))
    case first =>
      have tokB : True := trivial
      go_region_held3 (fun _ => True) (trivial) (first
        | (refine wanted_go (by kernel_rfl) ?_; go_simp; go_at_call 21; refine (HSP.out _).mono ?_; rintro e w6 ⟨v6, rfl, ha6, hb6⟩; have hx6 : Below w3.heap.size w3 w6 := by first | exact hb6 | exact (Below.drew (Below.refl _ _)).trans hb6)
        | (refine wanted_go (by kernel_rfl) ?_; go_simp; go_at_call 20; have _t := tokB; refine (sameMatrix_val (FR.out.below hx6) ha6.see HFIT.out).mono ?_; rintro e w7 ⟨rfl, hb7⟩; clear _t tokB; have hx7 : Below w3.heap.size w3 w7 := hx6.trans (hb7.mono hx6.size))
        | (refine wanted_go (by kernel_rfl) ?_; go_simp; go_at_call 22; refine (HONE.out _).mono ?_; rintro e w8 ⟨v8, rfl, ha8, hb8⟩; have hx8 : Below w3.heap.size w3 w8 := hx7.trans (hb8.mono hx7.size))
        | (refine wanted_go (by kernel_rfl) ?_; go_simp; go_at_call 20; refine (sameMatrix_val (FK.out.below hx8) ha8.see HFO.out).mono ?_; rintro e w9 ⟨rfl, hb9⟩; have hx9 : Below w3.heap.size w3 w9 := hx8.trans (hb9.mono hx8.size)))
      all_goals (go_wp2_with fail; go_meet; exact ⟨rfl, ⟨hx9⟩⟩)
    case rest =>
      obtain ⟨rfl, hbx⟩ := hcut
      have HY4 := Shut.mk (show wc.cell? ⟨gp, 1, none⟩ = some (.int .i64 x1) ∧ wc.cell? ⟨gp, 2, none⟩ = some (.int .i64 x2) from ⟨(hbx.out.cell (p := ⟨gp, 1, none⟩) gp3).trans HY3.out.1, (hbx.out.cell (p := ⟨gp, 2, none⟩) gp3).trans HY3.out.2⟩)
      have gp4 : gp < wc.heap.size := Nat.lt_of_lt_of_le gp3 hbx.out.size
      have z34 := hbx.out.size
      have HB4 := Shut.mk (HB3.out.trans (hbx.out.mono HB3.out.size))
      have HMR4 := Shut.mk (HMR.out.below hbx.out)
      have HS0 : Shut (PickS wc (wc.alloc (.cells #[] 32)) (.slice (some ⟨wc.heap.size, 0, none⟩) 0 0) []) := ⟨⟨World.ownsRow_made wc #[] 0 (Nat.le_refl _) (by decide) rfl, by simp, (Below.refl _ _).alloc (Nat.le_refl _) _⟩⟩
      clear HY3 HB3 HMR hbx FR FK HFO HONE HSP gp3
      go_wp2_with fail
      go_loopw [9, 10] (fun v ii wr => ∃ (i : Nat) (I : List Nat) (ts : List SR) (vv : Value), vv = v ∧ ii = .int .i64 (i : Nat) ∧ i ≤ 3 ∧ I.length ≤ 2 ∧ 2 - I.length ≤ 3 - i ∧ Shut (I.Sublist (List.range i) ∧ rws ts = rowsP s I) ∧ Shut (PickS wc wr vv ts)) (fun _ ii _ => 3 - (intOf ii).toNat)
      case atStart => exact ⟨0, [], [], _, rfl, rfl, Nat.zero_le _, by simp, by simp, ⟨by simp, by simp [rws, rowsP]⟩, HS0⟩
      case round =>
        clear HS0
        obtain ⟨i, I, ts, v, rfl, rfl, hin, hIk, hIn, hI, hP⟩ := hrel
        obtain ⟨wo, rfl⟩ : ∃ wo, wo = wr := ⟨_, rfl⟩
        obtain ⟨ar, cr2, rfl⟩ := own_slice hP.out.own
        have htl : ts.length = I.length := by rw [← rws_len, hI.out.2, rowsP_len]
        obtain ⟨tl, htl'⟩ : ∃ tl, tl = I.length := ⟨_, rfl⟩
        have HTL : Hid (tl = I.length ∧ ts.length = tl) := ⟨htl', by rw [htl', htl]⟩
        rw [HTL.out.2]
        rw [← htl'] at hIk hIn
        clear htl htl'
        by_cases hlt : i < 3
        · have hlt' : (i : Int) < 3 := by omega
          have i0' : (0 : Int) ≤ (i : Int) := by omega
          have hbo := hP.out.bel
          have y1 := (hbo.cell (p := ⟨gp, 1, none⟩) gp4).trans HY4.out.1
          have y2 := (hbo.cell (p := ⟨gp, 2, none⟩) gp4).trans HY4.out.2
          have hy12 := Shut.mk (And.intro y1 y2)
          obtain ⟨y, hy⟩ : ∃ y, y = x2 * (i : Int) := ⟨_, rfl⟩
          have hy0' : 0 ≤ y := by rw [hy]; exact Int.mul_nonneg q2.1 (by omega)
          have hy1' : y ≤ 60000 := by rw [hy]; exact Int.le_trans (Int.mul_le_mul (show x2 ≤ 10000 by omega) (show (i : Int) ≤ 6 by omega) (by omega) (by omega)) (by omega)
          have hw1 : IntKind.i64.wrap (x2 * (i : Int)) = y := by rw [← hy, IntKind.wrap_i64]; omega
          have hwy : x2 * (i : Int) = y := hy.symm
          have hYB := Shut.mk (And.intro hy0' hy1')
          have his : i < ss.length := by rw [HRR.out.2]; exact hlt
          obtain ⟨b5, o5, e5, l5, c5⟩ := HMR4.out.at (by omega)
          obtain ⟨rfl, rfl⟩ : b5 = gr ∧ o5 = 0 := by simp at e5; exact ⟨e5.1.symm, e5.2.symm⟩
          have d4 := (hbo.cell (p := ⟨b5, 0 + i, none⟩) l5).trans (c5 i his)
          rw [Nat.zero_add] at d4
          have hcr5 := HMR4.out.2 ss[i] (List.getElem_mem his)
          have hrow5 : ss[i].row = (codeX s).getD i [] := by
            have e1 := rws_get ss i his
            rw [← e1]
            simp only [HRR.out.1]
            have : i < (codeX s).length := by rw [HLEN.out]; exact hlt
            simp [List.getD, this]
          obtain ⟨s0, hs0⟩ : ∃ s0, s0 = ss[i] := ⟨_, rfl⟩
          rw [← hs0] at d4 hcr5 hrow5
          unfold srv at d4
          obtain ⟨L0, hL0⟩ : ∃ l, l = s0.loc := ⟨_, rfl⟩
          obtain ⟨N0, hN0⟩ : ∃ l, l = s0.row.length := ⟨_, rfl⟩
          obtain ⟨C0, hC0⟩ : ∃ l, l = s0.cap := ⟨_, rfl⟩
          rw [← hL0, ← hN0, ← hC0] at d4
          have HS1 : Shut (srv s0 = .slice L0 N0 C0) := ⟨by unfold srv; rw [hL0, hN0, hC0]⟩
          have HR5 := Shut.mk (And.intro hcr5 hrow5)
          have hown := hP.out.own
          rw [HTL.out.2] at hown
          have hso := hbo.size
          have HBO := Shut.mk hbo
          have hsubT : Shut ((I ++ [i]).Sublist (List.range (i + 1)) ∧ I.Sublist (List.range (i + 1))) := ⟨by rw [List.range_succ]; exact hI.out.1.append (List.Sublist.refl _), by rw [List.range_succ]; exact hI.out.1.trans (List.sublist_append_left _ _)⟩
          have HI := hI
          have HP := hP
          clear hy hs0 hL0 hN0 hC0 hcr5 hrow5 c5 e5 hbo hI hP l5 his hYB
          have htake : Shut (∀ (nq : Nat) (v' : Value) (w6 : World), w6.ownsRow wc.heap.size 32 1 v' (tl + 1) (svs ts ++ [.slice L0 N0 C0]) → ((wo.drewN nq).alloc (.cells #[.slice L0 N0 C0] 32)).grownBy w6 (Value.slice ar tl cr2).ownBlock → rws (ts ++ [s0]) = rowsP s (I ++ [i]) ∧ PickS wc w6 v' (ts ++ [s0])) := ⟨fun nq v' w6 hown6 hg6 => by
            have hbq : Below wc.heap.size wc (wo.drewN nq) := HBO.out.trans ⟨rfl, rfl, rfl, Nat.le_refl _, fun _ _ => rfl⟩
            refine ⟨by rw [rws_snoc, HI.out.2, rowsP_snoc, HR5.out.2], ?_, fun s hs => ?_, (hbq.alloc hbq.size _).grown hg6 (by have := hbq.size; simp; omega) (fun q hq => (hown.lt q hq).1)⟩
            · have e : svs (ts ++ [s0]) = svs ts ++ [.slice L0 N0 C0] := by rw [← HS1.out]; simp [svs]
              rw [e, List.length_append, List.length_singleton, HTL.out.2]
              exact hown6
            · rcases List.mem_append.1 hs with q | q
              · exact HP.out.rows s q
              · simp at q; subst q; exact HR5.out.1.wide (Nat.zero_le _) z34⟩
          obtain ⟨pb, hpar⟩ : ∃ pb, ((x1 + y) % 2 == 0) = pb := ⟨_, rfl⟩
          by_cases hA : tl < 2
          · have hA' : (tl : Int) < 2 := by omega
            by_cases hB : 3 - i ≤ 2 - tl
            · have hB' : (3 : Int) - (i : Int) ≤ 2 - (tl : Int) := by omega
              cases pb
              · go_upto_region 13 with fail
                go_quiet (fail)
                go_wp2_with (at_builtin; refine wpList_append_own _ rfl _ _ 36 rfl wc.heap.size 32 i1 (.slice none 0 0) 1 24 Try.underlying36 hi1 hy0 hy1 hy2 rfl (by decide) _ _ _ rfl (hown.alloc _) ⟨wo.heap.size, 0, none⟩ 1 1 [.slice L0 N0 C0] rfl rfl (cell_one_new _ _ _) ?c2 ?c3 ?c4 ?c5 ?_)
                case c2 => first | rfl | (intro u hu; simp at hu; subst hu; rfl)
                case c3 => unfold maxLen; omega
                case c4 => omega
                case c5 => first | omega | (simp; omega)
                intro v' w6 hown6 hg6 _
                obtain ⟨r1, r2⟩ := htake.out _ v' w6 hown6 hg6
                have R1 := Shut.mk (And.intro hsubT.out.1 r1)
                have R2 := Shut.mk r2
                clear r1 r2 hown6 hg6
                go_wp2_with fail
                exact ⟨⟨i + 1, I ++ [i], ts ++ [s0], _, rfl, by go_num, by omega, by rw [List.length_append, List.length_singleton]; have := HTL.out.1; omega, by rw [List.length_append, List.length_singleton]; have := HTL.out.1; omega, R1, R2⟩, by simp [intOf]; omega⟩
              · go_upto_region 13 with fail
                go_quiet (fail)
                go_wp2_with (at_builtin; refine wpList_append_own _ rfl _ _ 36 rfl wc.heap.size 32 i1 (.slice none 0 0) 1 24 Try.underlying36 hi1 hy0 hy1 hy2 rfl (by decide) _ _ _ rfl (hown.alloc _) ⟨wo.heap.size, 0, none⟩ 1 1 [.slice L0 N0 C0] rfl rfl (cell_one_new _ _ _) ?c2 ?c3 ?c4 ?c5 ?_)
                case c2 => first | rfl | (intro u hu; simp at hu; subst hu; rfl)
                case c3 => unfold maxLen; omega
                case c4 => omega
                case c5 => first | omega | (simp; omega)
                intro v' w6 hown6 hg6 _
                obtain ⟨r1, r2⟩ := htake.out _ v' w6 hown6 hg6
                have R1 := Shut.mk (And.intro hsubT.out.1 r1)
                have R2 := Shut.mk r2
                clear r1 r2 hown6 hg6
                go_wp2_with fail
                exact ⟨⟨i + 1, I ++ [i], ts ++ [s0], _, rfl, by go_num, by omega, by rw [List.length_append, List.length_singleton]; have := HTL.out.1; omega, by rw [List.length_append, List.length_singleton]; have := HTL.out.1; omega, R1, R2⟩, by simp [intOf]; omega⟩
            · have hB' : decide ((3 : Int) - (i : Int) ≤ 2 - (tl : Int)) = false := by simp; omega
              cases pb
              · go_upto_region 13 with fail
                go_quiet (fail)
                go_wp2_with fail
                exact ⟨⟨i + 1, I, ts, _, rfl, by go_num, by omega, by have := HTL.out.1; omega, by have := HTL.out.1; omega, ⟨hsubT.out.2, HI.out.2⟩, by rw [← HTL.out.2]; exact ⟨⟨HP.out.own.kept (row := none) ⟨rfl, rfl, rfl, Nat.le_refl _, fun _ _ _ => rfl⟩ (Classical.em _), HP.out.rows, HP.out.bel.trans ⟨rfl, rfl, rfl, Nat.le_refl _, fun _ _ => rfl⟩⟩⟩⟩, by simp [intOf]; omega⟩
              · go_upto_region 13 with fail
                go_quiet (fail)
                go_wp2_with (at_builtin; refine wpList_append_own _ rfl _ _ 36 rfl wc.heap.size 32 i1 (.slice none 0 0) 1 24 Try.underlying36 hi1 hy0 hy1 hy2 rfl (by decide) _ _ _ rfl (hown.alloc _) ⟨wo.heap.size, 0, none⟩ 1 1 [.slice L0 N0 C0] rfl rfl (cell_one_new _ _ _) ?c2 ?c3 ?c4 ?c5 ?_)
                case c2 => first | rfl | (intro u hu; simp at hu; subst hu; rfl)
                case c3 => unfold maxLen; omega
                case c4 => omega
                case c5 => first | omega | (simp; omega)
                intro v' w6 hown6 hg6 _
                obtain ⟨r1, r2⟩ := htake.out _ v' w6 hown6 hg6
                have R1 := Shut.mk (And.intro hsubT.out.1 r1)
                have R2 := Shut.mk r2
                clear r1 r2 hown6 hg6
                go_wp2_with fail
                exact ⟨⟨i + 1, I ++ [i], ts ++ [s0], _, rfl, by go_num, by omega, by rw [List.length_append, List.length_singleton]; have := HTL.out.1; omega, by rw [List.length_append, List.length_singleton]; have := HTL.out.1; omega, R1, R2⟩, by simp [intOf]; omega⟩
          · have hA' : decide ((tl : Int) < 2) = false := by simp; omega
            have hB' : decide ((3 : Int) - (i : Int) ≤ 2 - (tl : Int)) = false := by simp; omega
            cases pb
            · go_upto_region 13 with fail
              go_quiet (fail)
              go_wp2_with fail
              exact ⟨⟨i + 1, I, ts, _, rfl, by go_num, by omega, by have := HTL.out.1; omega, by have := HTL.out.1; omega, ⟨hsubT.out.2, HI.out.2⟩, by rw [← HTL.out.2]; exact ⟨⟨HP.out.own.kept (row := none) ⟨rfl, rfl, rfl, Nat.le_refl _, fun _ _ _ => rfl⟩ (Classical.em _), HP.out.rows, HP.out.bel.trans ⟨rfl, rfl, rfl, Nat.le_refl _, fun _ _ => rfl⟩⟩⟩⟩, by simp [intOf]; omega⟩
            · go_upto_region 13 with fail
              go_quiet (fail)
              go_wp2_with fail
              exact ⟨⟨i + 1, I, ts, _, rfl, by go_num, by omega, by have := HTL.out.1; omega, by have := HTL.out.1; omega, ⟨hsubT.out.2, HI.out.2⟩, by rw [← HTL.out.2]; exact ⟨⟨HP.out.own.kept (row := none) ⟨rfl, rfl, rfl, Nat.le_refl _, fun _ _ _ => rfl⟩ (Classical.em _), HP.out.rows, HP.out.bel.trans ⟨rfl, rfl, rfl, Nat.le_refl _, fun _ _ => rfl⟩⟩⟩⟩, by simp [intOf]; omega⟩
        · have e : i = 3 := by omega
          subst e
          have hIl : I.length = 2 := by have := HTL.out.1; omega
          have hsee : MSee wo (.slice ar tl cr2) (rowsP s I) 0 wo.heap.size := by
            obtain ⟨g, cg, e, hc⟩ := own_some hP.out.own (by rw [HTL.out.2]; have := HTL.out.1; omega)
            have hown := hP.out.own
            rw [e] at hown
            rw [HTL.out.2] at e
            rw [e]
            exact ⟨_, cg, ts, by rw [HTL.out.2], hI.out.2, RRow.of_wcells (own_wcells hown) (Nat.zero_le _) (own_wcells hown).1, fun s hs => ((hP.out.rows s hs).below hP.out.bel).wide (Nat.zero_le _) hP.out.bel.size⟩
          obtain ⟨Y, hY⟩ := HINV.out I hI.out.1 hIl
          have hIV := invX_yes hY
          have HIN := Shut.mk (HH.out.inv wo _ _ _ _ hsee (HFI.out I (by omega) (fun j hj => by have := hI.out.1.subset hj; simpa using this)))
          unfold InvPost at HIN
          rw [hIV] at HIN
          have HB5 := Shut.mk (HB4.out.trans (hP.out.bel.mono HB4.out.size))
          have htk : ((tl : Int) == 2) = true := by rw [beq_iff_eq]; have := HTL.out.1; omega
          have HS0 := Shut.mk (HH.out.sch 0)
          have HC4 := Shut.mk (HH.out.code 4)
          unfold SchB at HS0
          rw [show schOk 0 = false from sch_none.1] at HS0
          rw [show codeX 4 = [] from sch_none.2] at HC4
          clear hsee hIV hY hI hP hIl
          go_wp2_with fail
          refine HIN.out.mono ?_
          rintro e w7 ⟨v7, rfl, _, hb7⟩
          have HB7 := Shut.mk (HB5.out.trans (hb7.mono HB5.out.size))
          clear hb7
          go_wp2_with fail
          refine (HS0.out _).mono ?_
          rintro e w8 ⟨rfl, hb8⟩
          have HB8 := Shut.mk (HB7.out.trans (hb8.mono HB7.out.size))
          clear hb8
          go_wp2_with fail
          refine (HC4.out _).mono ?_
          rintro e w9 ⟨v9, rfl, ha9, hb9⟩
          obtain ⟨a9, c9, s9, rfl, r9, _⟩ := ha9
          have hs9 : s9.length = 0 := by rw [← rws_len, r9]; rfl
          rw [hs9]
          have HB9 := Shut.mk (HB8.out.trans (hb9.mono HB8.out.size))
          clear hb9 r9 hs9
          go_wp2_with fail
          go_ret
          exact ⟨rfl, HB9.out⟩
  · have hc2 : (3 : Int) ≤ (cr : Int) := by omega
    have hc3 : ¬ (cr : Int) < 3 := by omega
    have hcn : 5 ≤ cr := hcr'
    clear hkn hn6 hcr' hk0 c1 c2 c3 c4 hkc hcrI
    go_upto_region 7 with fail
    go_cut [58] from 33 (fun b wx => b = .bool false ∧ Shut (Below w3.heap.size w3 wx))
    case first =>
      have tokB : True := trivial
      go_region_held3 (fun _ => True) (trivial) (first
        | (refine wanted_go (by kernel_rfl) ?_; go_simp; go_at_call 21; refine (HSP.out _).mono ?_; rintro e w6 ⟨v6, rfl, ha6, hb6⟩; have hx6 : Below w3.heap.size w3 w6 := by first | exact hb6 | exact (Below.drew (Below.refl _ _)).trans hb6)
        | (refine wanted_go (by kernel_rfl) ?_; go_simp; go_at_call 20; have _t := tokB; refine (sameMatrix_val (FR.out.below hx6) ha6.see HFIT.out).mono ?_; rintro e w7 ⟨rfl, hb7⟩; clear _t tokB; have hx7 : Below w3.heap.size w3 w7 := hx6.trans (hb7.mono hx6.size))
        | (refine wanted_go (by kernel_rfl) ?_; go_simp; go_at_call 22; refine (HONE.out _).mono ?_; rintro e w8 ⟨v8, rfl, ha8, hb8⟩; have hx8 : Below w3.heap.size w3 w8 := hx7.trans (hb8.mono hx7.size))
        | (refine wanted_go (by kernel_rfl) ?_; go_simp; go_at_call 20; refine (sameMatrix_val (FK.out.below hx8) ha8.see HFO.out).mono ?_; rintro e w9 ⟨rfl, hb9⟩; have hx9 : Below w3.heap.size w3 w9 := hx8.trans (hb9.mono hx8.size)))
      all_goals (go_wp2_with fail; go_meet; exact ⟨rfl, ⟨hx9⟩⟩)
    case rest =>
      obtain ⟨rfl, hbx⟩ := hcut
      have HY4 := Shut.mk (show wc.cell? ⟨gp, 1, none⟩ = some (.int .i64 x1) ∧ wc.cell? ⟨gp, 2, none⟩ = some (.int .i64 x2) from ⟨(hbx.out.cell (p := ⟨gp, 1, none⟩) gp3).trans HY3.out.1, (hbx.out.cell (p := ⟨gp, 2, none⟩) gp3).trans HY3.out.2⟩)
      have gp4 : gp < wc.heap.size := Nat.lt_of_lt_of_le gp3 hbx.out.size
      have z34 := hbx.out.size
      have HB4 := Shut.mk (HB3.out.trans (hbx.out.mono HB3.out.size))
      have HMR4 := Shut.mk (HMR.out.below hbx.out)
      have HS0 : Shut (PickS wc (wc.alloc (.cells #[] 32)) (.slice (some ⟨wc.heap.size, 0, none⟩) 0 0) []) := ⟨⟨World.ownsRow_made wc #[] 0 (Nat.le_refl _) (by decide) rfl, by simp, (Below.refl _ _).alloc (Nat.le_refl _) _⟩⟩
      clear HY3 HB3 HMR hbx FR FK HFO HONE HSP gp3
      go_wp2_with fail
      go_loopw [9, 10] (fun v ii wr => ∃ (i : Nat) (I : List Nat) (ts : List SR) (vv : Value), vv = v ∧ ii = .int .i64 (i : Nat) ∧ i ≤ 5 ∧ I.length ≤ 3 ∧ 3 - I.length ≤ 5 - i ∧ Shut (I.Sublist (List.range i) ∧ rws ts = rowsP s I) ∧ Shut (PickS wc wr vv ts)) (fun _ ii _ => 5 - (intOf ii).toNat)
      case atStart => exact ⟨0, [], [], _, rfl, rfl, Nat.zero_le _, by simp, by simp, ⟨by simp, by simp [rws, rowsP]⟩, HS0⟩
      case round =>
        clear HS0
        obtain ⟨i, I, ts, v, rfl, rfl, hin, hIk, hIn, hI, hP⟩ := hrel
        obtain ⟨wo, rfl⟩ : ∃ wo, wo = wr := ⟨_, rfl⟩
        obtain ⟨ar, cr2, rfl⟩ := own_slice hP.out.own
        have htl : ts.length = I.length := by rw [← rws_len, hI.out.2, rowsP_len]
        obtain ⟨tl, htl'⟩ : ∃ tl, tl = I.length := ⟨_, rfl⟩
        have HTL : Hid (tl = I.length ∧ ts.length = tl) := ⟨htl', by rw [htl', htl]⟩
        rw [HTL.out.2]
        rw [← htl'] at hIk hIn
        clear htl htl'
        by_cases hlt : i < 5
        · have hlt' : (i : Int) < 5 := by omega
          have i0' : (0 : Int) ≤ (i : Int) := by omega
          have hbo := hP.out.bel
          have y1 := (hbo.cell (p := ⟨gp, 1, none⟩) gp4).trans HY4.out.1
          have y2 := (hbo.cell (p := ⟨gp, 2, none⟩) gp4).trans HY4.out.2
          have hy12 := Shut.mk (And.intro y1 y2)
          obtain ⟨y, hy⟩ : ∃ y, y = x2 * (i : Int) := ⟨_, rfl⟩
          have hy0' : 0 ≤ y := by rw [hy]; exact Int.mul_nonneg q2.1 (by omega)
          have hy1' : y ≤ 60000 := by rw [hy]; exact Int.le_trans (Int.mul_le_mul (show x2 ≤ 10000 by omega) (show (i : Int) ≤ 6 by omega) (by omega) (by omega)) (by omega)
          have hw1 : IntKind.i64.wrap (x2 * (i : Int)) = y := by rw [← hy, IntKind.wrap_i64]; omega
          have hwy : x2 * (i : Int) = y := hy.symm
          have hYB := Shut.mk (And.intro hy0' hy1')
          have his : i < ss.length := by rw [HRR.out.2]; exact hlt
          obtain ⟨b5, o5, e5, l5, c5⟩ := HMR4.out.at (by omega)
          obtain ⟨rfl, rfl⟩ : b5 = gr ∧ o5 = 0 := by simp at e5; exact ⟨e5.1.symm, e5.2.symm⟩
          have d4 := (hbo.cell (p := ⟨b5, 0 + i, none⟩) l5).trans (c5 i his)
          rw [Nat.zero_add] at d4
          have hcr5 := HMR4.out.2 ss[i] (List.getElem_mem his)
          have hrow5 : ss[i].row = (codeX s).getD i [] := by
            have e1 := rws_get ss i his
            rw [← e1]
            simp only [HRR.out.1]
            have : i < (codeX s).length := by rw [HLEN.out]; exact hlt
            simp [List.getD, this]
          obtain ⟨s0, hs0⟩ : ∃ s0, s0 = ss[i] := ⟨_, rfl⟩
          rw [← hs0] at d4 hcr5 hrow5
          unfold srv at d4
          obtain ⟨L0, hL0⟩ : ∃ l, l = s0.loc := ⟨_, rfl⟩
          obtain ⟨N0, hN0⟩ : ∃ l, l = s0.row.length := ⟨_, rfl⟩
          obtain ⟨C0, hC0⟩ : ∃ l, l = s0.cap := ⟨_, rfl⟩
          rw [← hL0, ← hN0, ← hC0] at d4
          have HS1 : Shut (srv s0 = .slice L0 N0 C0) := ⟨by unfold srv; rw [hL0, hN0, hC0]⟩
          have HR5 := Shut.mk (And.intro hcr5 hrow5)
          have hown := hP.out.own
          rw [HTL.out.2] at hown
          have hso := hbo.size
          have HBO := Shut.mk hbo
          have hsubT : Shut ((I ++ [i]).Sublist (List.range (i + 1)) ∧ I.Sublist (List.range (i + 1))) := ⟨by rw [List.range_succ]; exact hI.out.1.append (List.Sublist.refl _), by rw [List.range_succ]; exact hI.out.1.trans (List.sublist_append_left _ _)⟩
          have HI := hI
          have HP := hP
          clear hy hs0 hL0 hN0 hC0 hcr5 hrow5 c5 e5 hbo hI hP l5 his hYB
          have htake : Shut (∀ (nq : Nat) (v' : Value) (w6 : World), w6.ownsRow wc.heap.size 32 1 v' (tl + 1) (svs ts ++ [.slice L0 N0 C0]) → ((wo.drewN nq).alloc (.cells #[.slice L0 N0 C0] 32)).grownBy w6 (Value.slice ar tl cr2).ownBlock → rws (ts ++ [s0]) = rowsP s (I ++ [i]) ∧ PickS wc w6 v' (ts ++ [s0])) := ⟨fun nq v' w6 hown6 hg6 => by
            have hbq : Below wc.heap.size wc (wo.drewN nq) := HBO.out.trans ⟨rfl, rfl, rfl, Nat.le_refl _, fun _ _ => rfl⟩
            refine ⟨by rw [rws_snoc, HI.out.2, rowsP_snoc, HR5.out.2], ?_, fun s hs => ?_, (hbq.alloc hbq.size _).grown hg6 (by have := hbq.size; simp; omega) (fun q hq => (hown.lt q hq).1)⟩
            · have e : svs (ts ++ [s0]) = svs ts ++ [.slice L0 N0 C0] := by rw [← HS1.out]; simp [svs]
              rw [e, List.length_append, List.length_singleton, HTL.out.2]
              exact hown6
            · rcases List.mem_append.1 hs with q | q
              · exact HP.out.rows s q
              · simp at q; subst q; exact HR5.out.1.wide (Nat.zero_le _) z34⟩
          obtain ⟨pb, hpar⟩ : ∃ pb, ((x1 + y) % 2 == 0) = pb := ⟨_, rfl⟩
          by_cases hA : tl < 3
          · have hA' : (tl : Int) < 3 := by omega
            by_cases hB : 5 - i ≤ 3 - tl
            · have hB' : (5 : Int) - (i : Int) ≤ 3 - (tl : Int) := by omega
              cases pb
              · go_upto_region 13 with fail
                go_quiet (fail)
                go_wp2_with (at_builtin; refine wpList_append_own _ rfl _ _ 36 rfl wc.heap.size 32 i1 (.slice none 0 0) 1 24 Try.underlying36 hi1 hy0 hy1 hy2 rfl (by decide) _ _ _ rfl (hown.alloc _) ⟨wo.heap.size, 0, none⟩ 1 1 [.slice L0 N0 C0] rfl rfl (cell_one_new _ _ _) ?c2 ?c3 ?c4 ?c5 ?_)
                case c2 => first | rfl | (intro u hu; simp at hu; subst hu; rfl)
                case c3 => unfold maxLen; omega
                case c4 => omega
                case c5 => first | omega | (simp; omega)
                intro v' w6 hown6 hg6 _
                obtain ⟨r1, r2⟩ := htake.out _ v' w6 hown6 hg6
                have R1 := Shut.mk (And.intro hsubT.out.1 r1)
                have R2 := Shut.mk r2
                clear r1 r2 hown6 hg6
                go_wp2_with fail
                exact ⟨⟨i + 1, I ++ [i], ts ++ [s0], _, rfl, by go_num, by omega, by rw [List.length_append, List.length_singleton]; have := HTL.out.1; omega, by rw [List.length_append, List.length_singleton]; have := HTL.out.1; omega, R1, R2⟩, by simp [intOf]; omega⟩
              · go_upto_region 13 with fail
                go_quiet (fail)
                go_wp2_with (at_builtin; refine wpList_append_own _ rfl _ _ 36 rfl wc.heap.size 32 i1 (.slice none 0 0) 1 24 Try.underlying36 hi1 hy0 hy1 hy2 rfl (by decide) _ _ _ rfl (hown.alloc _) ⟨wo.heap.size, 0, none⟩ 1 1 [.slice L0 N0 C0] rfl rfl (cell_one_new _ _ _) ?c2 ?c3 ?c4 ?c5 ?_)
                case c2 => first | rfl | (intro u hu; simp at hu; subst hu; rfl)
                case c3 => unfold maxLen; omega
                case c4 => omega
                case c5 => first | omega | (simp; omega)
                intro v' w6 hown6 hg6 _
                obtain ⟨r1, r2⟩ := htake.out _ v' w6 hown6 hg6
                have R1 := Shut.mk (And.intro hsubT.out.1 r1)
                have R2 := Shut.mk r2
                clear r1 r2 hown6 hg6
                go_wp2_with fail
                exact ⟨⟨i + 1, I ++ [i], ts ++ [s0], _, rfl, by go_num, by omega, by rw [List.length_append, List.length_singleton]; have := HTL.out.1; omega, by rw [List.length_append, List.length_singleton]; have := HTL.out.1; omega, R1, R2⟩, by simp [intOf]; omega⟩
            · have hB' : decide ((5 : Int) - (i : Int) ≤ 3 - (tl : Int)) = false := by simp; omega
              cases pb
              · go_upto_region 13 with fail
                go_quiet (fail)
                go_wp2_with fail
                exact ⟨⟨i + 1, I, ts, _, rfl, by go_num, by omega, by have := HTL.out.1; omega, by have := HTL.out.1; omega, ⟨hsubT.out.2, HI.out.2⟩, by rw [← HTL.out.2]; exact ⟨⟨HP.out.own.kept (row := none) ⟨rfl, rfl, rfl, Nat.le_refl _, fun _ _ _ => rfl⟩ (Classical.em _), HP.out.rows, HP.out.bel.trans ⟨rfl, rfl, rfl, Nat.le_refl _, fun _ _ => rfl⟩⟩⟩⟩, by simp [intOf]; omega⟩
              · go_upto_region 13 with fail
                go_quiet (fail)
                go_wp2_with (at_builtin; refine wpList_append_own _ rfl _ _ 36 rfl wc.heap.size 32 i1 (.slice none 0 0) 1 24 Try.underlying36 hi1 hy0 hy1 hy2 rfl (by decide) _ _ _ rfl (hown.alloc _) ⟨wo.heap.size, 0, none⟩ 1 1 [.slice L0 N0 C0] rfl rfl (cell_one_new _ _ _) ?c2 ?c3 ?c4 ?c5 ?_)
                case c2 => first | rfl | (intro u hu; simp at hu; subst hu; rfl)
                case c3 => unfold maxLen; omega
                case c4 => omega
                case c5 => first | omega | (simp; omega)
                intro v' w6 hown6 hg6 _
                obtain ⟨r1, r2⟩ := htake.out _ v' w6 hown6 hg6
                have R1 := Shut.mk (And.intro hsubT.out.1 r1)
                have R2 := Shut.mk r2
                clear r1 r2 hown6 hg6
                go_wp2_with fail
                exact ⟨⟨i + 1, I ++ [i], ts ++ [s0], _, rfl, by go_num, by omega, by rw [List.length_append, List.length_singleton]; have := HTL.out.1; omega, by rw [List.length_append, List.length_singleton]; have := HTL.out.1; omega, R1, R2⟩, by simp [intOf]; omega⟩
          · have hA' : decide ((tl : Int) < 3) = false := by simp; omega
            have hB' : decide ((5 : Int) - (i : Int) ≤ 3 - (tl : Int)) = false := by simp; omega
            cases pb
            · go_upto_region 13 with fail
              go_quiet (fail)
              go_wp2_with fail
              exact ⟨⟨i + 1, I, ts, _, rfl, by go_num, by omega, by have := HTL.out.1; omega, by have := HTL.out.1; omega, ⟨hsubT.out.2, HI.out.2⟩, by rw [← HTL.out.2]; exact ⟨⟨HP.out.own.kept (row := none) ⟨rfl, rfl, rfl, Nat.le_refl _, fun _ _ _ => rfl⟩ (Classical.em _), HP.out.rows, HP.out.bel.trans ⟨rfl, rfl, rfl, Nat.le_refl _, fun _ _ => rfl⟩⟩⟩⟩, by simp [intOf]; omega⟩
            · go_upto_region 13 with fail
              go_quiet (fail)
              go_wp2_with fail
              exact ⟨⟨i + 1, I, ts, _, rfl, by go_num, by omega, by have := HTL.out.1; omega, by have := HTL.out.1; omega, ⟨hsubT.out.2, HI.out.2⟩, by rw [← HTL.out.2]; exact ⟨⟨HP.out.own.kept (row := none) ⟨rfl, rfl, rfl, Nat.le_refl _, fun _ _ _ => rfl⟩ (Classical.em _), HP.out.rows, HP.out.bel.trans ⟨rfl, rfl, rfl, Nat.le_refl _, fun _ _ => rfl⟩⟩⟩⟩, by simp [intOf]; omega⟩
        · have e : i = 5 := by omega
          subst e
          have hIl : I.length = 3 := by have := HTL.out.1; omega
          have hsee : MSee wo (.slice ar tl cr2) (rowsP s I) 0 wo.heap.size := by
            obtain ⟨g, cg, e, hc⟩ := own_some hP.out.own (by rw [HTL.out.2]; have := HTL.out.1; omega)
            have hown := hP.out.own
            rw [e] at hown
            rw [HTL.out.2] at e
            rw [e]
            exact ⟨_, cg, ts, by rw [HTL.out.2], hI.out.2, RRow.of_wcells (own_wcells hown) (Nat.zero_le _) (own_wcells hown).1, fun s hs => ((hP.out.rows s hs).below hP.out.bel).wide (Nat.zero_le _) hP.out.bel.size⟩
          obtain ⟨Y, hY⟩ := HINV.out I hI.out.1 hIl
          have hIV := invX_yes hY
          have HIN := Shut.mk (HH.out.inv wo _ _ _ _ hsee (HFI.out I (by omega) (fun j hj => by have := hI.out.1.subset hj; simpa using this)))
          unfold InvPost at HIN
          rw [hIV] at HIN
          have HB5 := Shut.mk (HB4.out.trans (hP.out.bel.mono HB4.out.size))
          have htk : ((tl : Int) == 3) = true := by rw [beq_iff_eq]; have := HTL.out.1; omega
          have HS0 := Shut.mk (HH.out.sch 0)
          have HC4 := Shut.mk (HH.out.code 4)
          unfold SchB at HS0
          rw [show schOk 0 = false from sch_none.1] at HS0
          rw [show codeX 4 = [] from sch_none.2] at HC4
          clear hsee hIV hY hI hP hIl
          go_wp2_with fail
          refine HIN.out.mono ?_
          rintro e w7 ⟨v7, rfl, _, hb7⟩
          have HB7 := Shut.mk (HB5.out.trans (hb7.mono HB5.out.size))
          clear hb7
          go_wp2_with fail
          refine (HS0.out _).mono ?_
          rintro e w8 ⟨rfl, hb8⟩
          have HB8 := Shut.mk (HB7.out.trans (hb8.mono HB7.out.size))
          clear hb8
          go_wp2_with fail
          refine (HC4.out _).mono ?_
          rintro e w9 ⟨v9, rfl, ha9, hb9⟩
          obtain ⟨a9, c9, s9, rfl, r9, _⟩ := ha9
          have hs9 : s9.length = 0 := by rw [← rws_len, r9]; rfl
          rw [hs9]
          have HB9 := Shut.mk (HB8.out.trans (hb9.mono HB8.out.size))
          clear hb9 r9 hs9
          go_wp2_with fail
          go_ret
          exact ⟨rfl, HB9.out⟩
  · have hc2 : (4 : Int) ≤ (cr : Int) := by omega
    have hc3 : ¬ (cr : Int) < 4 := by omega
    have hcn : 6 ≤ cr := hcr'
    clear hkn hn6 hcr' hk0 c1 c2 c3 c4 hkc hcrI
    go_upto_region 7 with fail
    go_cut [58] from 33 (fun b wx => b = .bool false ∧ Shut (Below w3.heap.size w3 wx))
    case first =>
      have tokB : True := trivial
      go_region_held3 (fun _ => True) (trivial) (first
        | (refine wanted_go (by kernel_rfl) ?_; go_simp; go_at_call 21; refine (HSP.out _).mono ?_; rintro e w6 ⟨v6, rfl, ha6, hb6⟩; have hx6 : Below w3.heap.size w3 w6 := by first | exact hb6 | exact (Below.drew (Below.refl _ _)).trans hb6)
        | (refine wanted_go (by kernel_rfl) ?_; go_simp; go_at_call 20; have _t := tokB; refine (sameMatrix_val (FR.out.below hx6) ha6.see HFIT.out).mono ?_; rintro e w7 ⟨rfl, hb7⟩; clear _t tokB; have hx7 : Below w3.heap.size w3 w7 := hx6.trans (hb7.mono hx6.size))
        | (refine wanted_go (by kernel_rfl) ?_; go_simp; go_at_call 22; refine (HONE.out _).mono ?_; rintro e w8 ⟨v8, rfl, ha8, hb8⟩; have hx8 : Below w3.heap.size w3 w8 := hx7.trans (hb8.mono hx7.size))
        | (refine wanted_go (by kernel_rfl) ?_; go_simp; go_at_call 20; refine (sameMatrix_val (FK.out.below hx8) ha8.see HFO.out).mono ?_; rintro e w9 ⟨rfl, hb9⟩; have hx9 : Below w3.heap.size w3 w9 := hx8.trans (hb9.mono hx8.size)))
      all_goals (go_wp2_with fail; go_meet; exact ⟨rfl, ⟨hx9⟩⟩)
    case rest =>
      obtain ⟨rfl, hbx⟩ := hcut
      have HY4 := Shut.mk (show wc.cell? ⟨gp, 1, none⟩ = some (.int .i64 x1) ∧ wc.cell? ⟨gp, 2, none⟩ = some (.int .i64 x2) from ⟨(hbx.out.cell (p := ⟨gp, 1, none⟩) gp3).trans HY3.out.1, (hbx.out.cell (p := ⟨gp, 2, none⟩) gp3).trans HY3.out.2⟩)
      have gp4 : gp < wc.heap.size := Nat.lt_of_lt_of_le gp3 hbx.out.size
      have z34 := hbx.out.size
      have HB4 := Shut.mk (HB3.out.trans (hbx.out.mono HB3.out.size))
      have HMR4 := Shut.mk (HMR.out.below hbx.out)
      have HS0 : Shut (PickS wc (wc.alloc (.cells #[] 32)) (.slice (some ⟨wc.heap.size, 0, none⟩) 0 0) []) := ⟨⟨World.ownsRow_made wc #[] 0 (Nat.le_refl _) (by decide) rfl, by simp, (Below.refl _ _).alloc (Nat.le_refl _) _⟩⟩
      clear HY3 HB3 HMR hbx FR FK HFO HONE HSP gp3
      go_wp2_with fail
      go_loopw [9, 10] (fun v ii wr => ∃ (i : Nat) (I : List Nat) (ts : List SR) (vv : Value), vv = v ∧ ii = .int .i64 (i : Nat) ∧ i ≤ 6 ∧ I.length ≤ 4 ∧ 4 - I.length ≤ 6 - i ∧ Shut (I.Sublist (List.range i) ∧ rws ts = rowsP s I) ∧ Shut (PickS wc wr vv ts)) (fun _ ii _ => 6 - (intOf ii).toNat)
      case atStart => exact ⟨0, [], [], _, rfl, rfl, Nat.zero_le _, by simp, by simp, ⟨by simp, by simp [rws, rowsP]⟩, HS0⟩
      case round =>
        clear HS0
        obtain ⟨i, I, ts, v, rfl, rfl, hin, hIk, hIn, hI, hP⟩ := hrel
        obtain ⟨wo, rfl⟩ : ∃ wo, wo = wr := ⟨_, rfl⟩
        obtain ⟨ar, cr2, rfl⟩ := own_slice hP.out.own
        have htl : ts.length = I.length := by rw [← rws_len, hI.out.2, rowsP_len]
        obtain ⟨tl, htl'⟩ : ∃ tl, tl = I.length := ⟨_, rfl⟩
        have HTL : Hid (tl = I.length ∧ ts.length = tl) := ⟨htl', by rw [htl', htl]⟩
        rw [HTL.out.2]
        rw [← htl'] at hIk hIn
        clear htl htl'
        by_cases hlt : i < 6
        · have hlt' : (i : Int) < 6 := by omega
          have i0' : (0 : Int) ≤ (i : Int) := by omega
          have hbo := hP.out.bel
          have y1 := (hbo.cell (p := ⟨gp, 1, none⟩) gp4).trans HY4.out.1
          have y2 := (hbo.cell (p := ⟨gp, 2, none⟩) gp4).trans HY4.out.2
          have hy12 := Shut.mk (And.intro y1 y2)
          obtain ⟨y, hy⟩ : ∃ y, y = x2 * (i : Int) := ⟨_, rfl⟩
          have hy0' : 0 ≤ y := by rw [hy]; exact Int.mul_nonneg q2.1 (by omega)
          have hy1' : y ≤ 60000 := by rw [hy]; exact Int.le_trans (Int.mul_le_mul (show x2 ≤ 10000 by omega) (show (i : Int) ≤ 6 by omega) (by omega) (by omega)) (by omega)
          have hw1 : IntKind.i64.wrap (x2 * (i : Int)) = y := by rw [← hy, IntKind.wrap_i64]; omega
          have hwy : x2 * (i : Int) = y := hy.symm
          have hYB := Shut.mk (And.intro hy0' hy1')
          have his : i < ss.length := by rw [HRR.out.2]; exact hlt
          obtain ⟨b5, o5, e5, l5, c5⟩ := HMR4.out.at (by omega)
          obtain ⟨rfl, rfl⟩ : b5 = gr ∧ o5 = 0 := by simp at e5; exact ⟨e5.1.symm, e5.2.symm⟩
          have d4 := (hbo.cell (p := ⟨b5, 0 + i, none⟩) l5).trans (c5 i his)
          rw [Nat.zero_add] at d4
          have hcr5 := HMR4.out.2 ss[i] (List.getElem_mem his)
          have hrow5 : ss[i].row = (codeX s).getD i [] := by
            have e1 := rws_get ss i his
            rw [← e1]
            simp only [HRR.out.1]
            have : i < (codeX s).length := by rw [HLEN.out]; exact hlt
            simp [List.getD, this]
          obtain ⟨s0, hs0⟩ : ∃ s0, s0 = ss[i] := ⟨_, rfl⟩
          rw [← hs0] at d4 hcr5 hrow5
          unfold srv at d4
          obtain ⟨L0, hL0⟩ : ∃ l, l = s0.loc := ⟨_, rfl⟩
          obtain ⟨N0, hN0⟩ : ∃ l, l = s0.row.length := ⟨_, rfl⟩
          obtain ⟨C0, hC0⟩ : ∃ l, l = s0.cap := ⟨_, rfl⟩
          rw [← hL0, ← hN0, ← hC0] at d4
          have HS1 : Shut (srv s0 = .slice L0 N0 C0) := ⟨by unfold srv; rw [hL0, hN0, hC0]⟩
          have HR5 := Shut.mk (And.intro hcr5 hrow5)
          have hown := hP.out.own
          rw [HTL.out.2] at hown
          have hso := hbo.size
          have HBO := Shut.mk hbo
          have hsubT : Shut ((I ++ [i]).Sublist (List.range (i + 1)) ∧ I.Sublist (List.range (i + 1))) := ⟨by rw [List.range_succ]; exact hI.out.1.append (List.Sublist.refl _), by rw [List.range_succ]; exact hI.out.1.trans (List.sublist_append_left _ _)⟩
          have HI := hI
          have HP := hP
          clear hy hs0 hL0 hN0 hC0 hcr5 hrow5 c5 e5 hbo hI hP l5 his hYB
          have htake : Shut (∀ (nq : Nat) (v' : Value) (w6 : World), w6.ownsRow wc.heap.size 32 1 v' (tl + 1) (svs ts ++ [.slice L0 N0 C0]) → ((wo.drewN nq).alloc (.cells #[.slice L0 N0 C0] 32)).grownBy w6 (Value.slice ar tl cr2).ownBlock → rws (ts ++ [s0]) = rowsP s (I ++ [i]) ∧ PickS wc w6 v' (ts ++ [s0])) := ⟨fun nq v' w6 hown6 hg6 => by
            have hbq : Below wc.heap.size wc (wo.drewN nq) := HBO.out.trans ⟨rfl, rfl, rfl, Nat.le_refl _, fun _ _ => rfl⟩
            refine ⟨by rw [rws_snoc, HI.out.2, rowsP_snoc, HR5.out.2], ?_, fun s hs => ?_, (hbq.alloc hbq.size _).grown hg6 (by have := hbq.size; simp; omega) (fun q hq => (hown.lt q hq).1)⟩
            · have e : svs (ts ++ [s0]) = svs ts ++ [.slice L0 N0 C0] := by rw [← HS1.out]; simp [svs]
              rw [e, List.length_append, List.length_singleton, HTL.out.2]
              exact hown6
            · rcases List.mem_append.1 hs with q | q
              · exact HP.out.rows s q
              · simp at q; subst q; exact HR5.out.1.wide (Nat.zero_le _) z34⟩
          obtain ⟨pb, hpar⟩ : ∃ pb, ((x1 + y) % 2 == 0) = pb := ⟨_, rfl⟩
          by_cases hA : tl < 4
          · have hA' : (tl : Int) < 4 := by omega
            by_cases hB : 6 - i ≤ 4 - tl
            · have hB' : (6 : Int) - (i : Int) ≤ 4 - (tl : Int) := by omega
              cases pb
              · go_upto_region 13 with fail
                go_quiet (fail)
                go_wp2_with (at_builtin; refine wpList_append_own _ rfl _ _ 36 rfl wc.heap.size 32 i1 (.slice none 0 0) 1 24 Try.underlying36 hi1 hy0 hy1 hy2 rfl (by decide) _ _ _ rfl (hown.alloc _) ⟨wo.heap.size, 0, none⟩ 1 1 [.slice L0 N0 C0] rfl rfl (cell_one_new _ _ _) ?c2 ?c3 ?c4 ?c5 ?_)
                case c2 => first | rfl | (intro u hu; simp at hu; subst hu; rfl)
                case c3 => unfold maxLen; omega
                case c4 => omega
                case c5 => first | omega | (simp; omega)
                intro v' w6 hown6 hg6 _
                obtain ⟨r1, r2⟩ := htake.out _ v' w6 hown6 hg6
                have R1 := Shut.mk (And.intro hsubT.out.1 r1)
                have R2 := Shut.mk r2
                clear r1 r2 hown6 hg6
                go_wp2_with fail
                exact ⟨⟨i + 1, I ++ [i], ts ++ [s0], _, rfl, by go_num, by omega, by rw [List.length_append, List.length_singleton]; have := HTL.out.1; omega, by rw [List.length_append, List.length_singleton]; have := HTL.out.1; omega, R1, R2⟩, by simp [intOf]; omega⟩
              · go_upto_region 13 with fail
                go_quiet (fail)
                go_wp2_with (at_builtin; refine wpList_append_own _ rfl _ _ 36 rfl wc.heap.size 32 i1 (.slice none 0 0) 1 24 Try.underlying36 hi1 hy0 hy1 hy2 rfl (by decide) _ _ _ rfl (hown.alloc _) ⟨wo.heap.size, 0, none⟩ 1 1 [.slice L0 N0 C0] rfl rfl (cell_one_new _ _ _) ?c2 ?c3 ?c4 ?c5 ?_)
                case c2 => first | rfl | (intro u hu; simp at hu; subst hu; rfl)
                case c3 => unfold maxLen; omega
                case c4 => omega
                case c5 => first | omega | (simp; omega)
                intro v' w6 hown6 hg6 _
                obtain ⟨r1, r2⟩ := htake.out _ v' w6 hown6 hg6
                have R1 := Shut.mk (And.intro hsubT.out.1 r1)
                have R2 := Shut.mk r2
                clear r1 r2 hown6 hg6
                go_wp2_with fail
                exact ⟨⟨i + 1, I ++ [i], ts ++ [s0], _, rfl, by go_num, by omega, by rw [List.length_append, List.length_singleton]; have := HTL.out.1; omega, by rw [List.length_append, List.length_singleton]; have := HTL.out.1; omega, R1, R2⟩, by simp [intOf]; omega⟩
            · have hB' : decide ((6 : Int) - (i : Int) ≤ 4 - (tl : Int)) = false := by simp; omega
              cases pb
              · go_upto_region 13 with fail
                go_quiet (fail)
                go_wp2_with fail
                exact ⟨⟨i + 1, I, ts, _, rfl, by go_num, by omega, by have := HTL.out.1; omega, by have := HTL.out.1; omega, ⟨hsubT.out.2, HI.out.2⟩, by rw [← HTL.out.2]; exact ⟨⟨HP.out.own.kept (row := none) ⟨rfl, rfl, rfl, Nat.le_refl _, fun _ _ _ => rfl⟩ (Classical.em _), HP.out.rows, HP.out.bel.trans ⟨rfl, rfl, rfl, Nat.le_refl _, fun _ _ => rfl⟩⟩⟩⟩, by simp [intOf]; omega⟩
              · go_upto_region 13 with fail
                go_quiet (fail)
                go_wp2_with (at_builtin; refine wpList_append_own _ rfl _ _ 36 rfl wc.heap.size 32 i1 (.slice none 0 0) 1 24 Try.underlying36 hi1 hy0 hy1 hy2 rfl (by decide) _ _ _ rfl (hown.alloc _) ⟨wo.heap.size, 0, none⟩ 1 1 [.slice L0 N0 C0] rfl rfl (cell_one_new _ _ _) ?c2 ?c3 ?c4 ?c5 ?_)
                case c2 => first | rfl | (intro u hu; simp at hu; subst hu; rfl)
                case c3 => unfold maxLen; omega
                case c4 => omega
                case c5 => first | omega | (simp; omega)
                intro v' w6 hown6 hg6 _
                obtain ⟨r1, r2⟩ := htake.out _ v' w6 hown6 hg6
                have R1 := Shut.mk (And.intro hsubT.out.1 r1)
                have R2 := Shut.mk r2
                clear r1 r2 hown6 hg6
                go_wp2_with fail
                exact ⟨⟨i + 1, I ++ [i], ts ++ [s0], _, rfl, by go_num, by omega, by rw [List.length_append, List.length_singleton]; have := HTL.out.1; omega, by rw [List.length_append, List.length_singleton]; have := HTL.out.1; omega, R1, R2⟩, by simp [intOf]; omega⟩
          · have hA' : decide ((tl : Int) < 4) = false := by simp; omega
            have hB' : decide ((6 : Int) - (i : Int) ≤ 4 - (tl : Int)) = false := by simp; omega
            cases pb
            · go_upto_region 13 with fail
              go_quiet (fail)
              go_wp2_with fail
              exact ⟨⟨i + 1, I, ts, _, rfl, by go_num, by omega, by have := HTL.out.1; omega, by have := HTL.out.1; omega, ⟨hsubT.out.2, HI.out.2⟩, by rw [← HTL.out.2]; exact ⟨⟨HP.out.own.kept (row := none) ⟨rfl, rfl, rfl, Nat.le_refl _, fun _ _ _ => rfl⟩ (Classical.em _), HP.out.rows, HP.out.bel.trans ⟨rfl, rfl, rfl, Nat.le_refl _, fun _ _ => rfl⟩⟩⟩⟩, by simp [intOf]; omega⟩
            · go_upto_region 13 with fail
              go_quiet (fail)
              go_wp2_with fail
              exact ⟨⟨i + 1, I, ts, _, rfl, by go_num, by omega, by have := HTL.out.1; omega, by have := HTL.out.1; omega, ⟨hsubT.out.2, HI.out.2⟩, by rw [← HTL.out.2]; exact ⟨⟨HP.out.own.kept (row := none) ⟨rfl, rfl, rfl, Nat.le_refl _, fun _ _ _ => rfl⟩ (Classical.em _), HP.out.rows, HP.out.bel.trans ⟨rfl, rfl, rfl, Nat.le_refl _, fun _ _ => rfl⟩⟩⟩⟩, by simp [intOf]; omega⟩
        · have e : i = 6 := by omega
          subst e
          have hIl : I.length = 4 := by have := HTL.out.1; omega
          have hsee : MSee wo (.slice ar tl cr2) (rowsP s I) 0 wo.heap.size := by
            obtain ⟨g, cg, e, hc⟩ := own_some hP.out.own (by rw [HTL.out.2]; have := HTL.out.1; omega)
            have hown := hP.out.own
            rw [e] at hown
            rw [HTL.out.2] at e
            rw [e]
            exact ⟨_, cg, ts, by rw [HTL.out.2], hI.out.2, RRow.of_wcells (own_wcells hown) (Nat.zero_le _) (own_wcells hown).1, fun s hs => ((hP.out.rows s hs).below hP.out.bel).wide (Nat.zero_le _) hP.out.bel.size⟩
          obtain ⟨Y, hY⟩ := HINV.out I hI.out.1 hIl
          have hIV := invX_yes hY
          have HIN := Shut.mk (HH.out.inv wo _ _ _ _ hsee (HFI.out I (by omega) (fun j hj => by have := hI.out.1.subset hj; simpa using this)))
          unfold InvPost at HIN
          rw [hIV] at HIN
          have HB5 := Shut.mk (HB4.out.trans (hP.out.bel.mono HB4.out.size))
          have htk : ((tl : Int) == 4) = true := by rw [beq_iff_eq]; have := HTL.out.1; omega
          have HS0 := Shut.mk (HH.out.sch 0)
          have HC4 := Shut.mk (HH.out.code 4)
          unfold SchB at HS0
          rw [show schOk 0 = false from sch_none.1] at HS0
          rw [show codeX 4 = [] from sch_none.2] at HC4
          clear hsee hIV hY hI hP hIl
          go_wp2_with fail
          refine HIN.out.mono ?_
          rintro e w7 ⟨v7, rfl, _, hb7⟩
          have HB7 := Shut.mk (HB5.out.trans (hb7.mono HB5.out.size))
          clear hb7
          go_wp2_with fail
          refine (HS0.out _).mono ?_
          rintro e w8 ⟨rfl, hb8⟩
          have HB8 := Shut.mk (HB7.out.trans (hb8.mono HB7.out.size))
          clear hb8
          go_wp2_with fail
          refine (HC4.out _).mono ?_
          rintro e w9 ⟨v9, rfl, ha9, hb9⟩
          obtain ⟨a9, c9, s9, rfl, r9, _⟩ := ha9
          have hs9 : s9.length = 0 := by rw [← rws_len, r9]; rfl
          rw [hs9]
          have HB9 := Shut.mk (HB8.out.trans (hb9.mono HB8.out.size))
          clear hb9 r9 hs9
          go_wp2_with fail
          go_ret
          exact ⟨rfl, HB9.out⟩
end Go.Proofs.Ytdlgailodhlbmaa
/- FieldP: The program's own field of bytes: plus, doubled, times, power, inverse. -/
namespace Go.Proofs.Ytdlgailodhlbmaa
open Go.RowKit
open W (B8)
attribute [local go_sem ↓] Go.wp_at_zero Go.wp_at_succ
attribute [local irreducible] W.gm W.xt W.gp W.gi addB mulT

abbrev u8v (A : B8) : Value := .int .u8 (A.toNat : Int)
theorem u8_xor8 (A B : B8) : bits .xor .u8 (A.toNat : Int) (B.toNat : Int) = ((A ^^^ B).toNat : Int) := u8_xor ⟨A⟩ ⟨B⟩
theorem implPlus (A B : B8) (w : World) : Calls Try.prog 77 #[.int .u8 (A.toNat : Int), .int .u8 (B.toNat : Int)] w fun e w' => e = .returned (.int .u8 ((A ^^^ B).toNat : Int)) ∧ w' = w := by
  have hx := u8_xor8 A B
  go_enter Try.func77, Try.ntmps77
  go_wp2_with fail
  go_ret
  exact ⟨rfl, rfl⟩
theorem xt_lo : ∀ A : B8, A.toNat < 128 → A.toNat * 2 = (W.xt A).toNat := by unfold W.xt; decide +kernel
theorem xt_hi : ∀ A : B8, ¬ A.toNat < 128 → (BitVec.ofNat 8 (A.toNat * 2 % 256)) ^^^ 29#8 = W.xt A ∧ (BitVec.ofNat 8 (A.toNat * 2 % 256)).toNat = A.toNat * 2 % 256 := by unfold W.xt; decide +kernel
theorem implDoubled (A : B8) (w : World) : Calls Try.prog 84 #[.int .u8 (A.toNat : Int)] w fun e w' => e = .returned (.int .u8 ((W.xt A).toNat : Int)) ∧ w' = w := by
  by_cases h : A.toNat < 128
  · have h' : (A.toNat : Int) < 128 := by omega
    have HX : Hid (((W.xt A).toNat : Int) = (A.toNat : Int) * 2) := by rw [← xt_lo A h]; push_cast; rfl
    go_enter Try.func84, Try.ntmps84
    go_wp2_with fail
    go_ret
    exact ⟨by rw [HX.out]; rfl, rfl⟩
  · have h' : ¬ (A.toNat : Int) < 128 := by omega
    have hx : bits .xor .u8 ((A.toNat : Int) * 2 % 256) 29 = ((W.xt A).toNat : Int) := by
      obtain ⟨e1, e2⟩ := xt_hi A h
      have := u8_xor8 (BitVec.ofNat 8 (A.toNat * 2 % 256)) 29#8
      rw [e1, e2] at this
      exact this
    go_enter Try.func84, Try.ntmps84
    go_wp2_with fail
    go_ret
    exact ⟨rfl, rfl⟩
theorem u8_and8 (A B : B8) : bits .and .u8 (A.toNat : Int) (B.toNat : Int) = ((A &&& B).toNat : Int) := by
  have h1 : ∀ z : B8, (BitVec.ofInt 8 (z.toNat : Int)).toNat = z.toNat := fun z => by rw [BitVec.toNat_ofInt]; have := z.isLt; omega
  have h2 := (A &&& B).isLt
  show IntKind.u8.wrap ((BitVec.ofInt 8 (A.toNat : Int) &&& BitVec.ofInt 8 (B.toNat : Int)).toNat : Nat) = _
  rw [BitVec.toNat_and, h1, h1]
  rw [BitVec.toNat_and] at h2 ⊢
  simp [IntKind.wrap, IntKind.bits, IntKind.signed]
  omega
theorem low_bit : ∀ C : B8, (((C &&& 1#8).toNat : Int) == 1) = C.getLsbD 0 := by decide +kernel
theorem bit_at (B : B8) (k : Nat) : (bits .and .u8 ((B.toNat : Int) / 2 ^ k) 1 == 1) = (B >>> k).getLsbD 0 := by
  have e : ((B >>> k).toNat : Int) = (B.toNat : Int) / 2 ^ k := by rw [BitVec.toNat_ushiftRight, Nat.shiftRight_eq_div_pow]; push_cast; rfl
  rw [← e, ← low_bit, ← u8_and8]; rfl
set_option maxHeartbeats 1000000 in
theorem implTimes (A0 B : B8) (w : World) : Calls Try.prog 78 #[.int .u8 (A0.toNat : Int), .int .u8 (B.toNat : Int)] w fun e w' => e = .returned (.int .u8 ((W.gm A0 B).toNat : Int)) ∧ w' = w := by
  obtain ⟨P, hP⟩ : ∃ P, P = W.gm A0 B := ⟨_, rfl⟩
  rw [← hP]
  have HP : Hid (P = 0#8 ^^^ W.gm A0 (B >>> 0)) := by rw [BitVec.zero_xor, BitVec.ushiftRight_zero]; exact hP
  clear hP
  go_enter Try.func78, Try.ntmps78
  go_wp2_with fail
  go_loop [0, 5, 7] (fun a o i => ∃ (A O : B8) (k : Nat), a = .int .u8 (A.toNat : Int) ∧ o = .int .u8 (O.toNat : Int) ∧ i = .int .i64 k ∧ k ≤ 8 ∧ P = O ^^^ W.gm A (B >>> k)) (fun _ _ i => 8 - (intOf i).toNat)
  case atStart => exact ⟨A0, 0#8, 0, rfl, rfl, rfl, Nat.zero_le _, HP.out⟩
  case round =>
    obtain ⟨A, O, k, rfl, rfl, rfl, hk, hr⟩ := hrel
    by_cases hlt : k < 8
    · have k0 : (0 : Int) ≤ (k : Int) := by omega
      have k8 : (k : Int) < 8 := by omega
      obtain ⟨r1, r2⟩ := gm_round hr
      have hs : B >>> k >>> 1 = B >>> (k + 1) := (BitVec.shiftRight_add ..).symm
      rw [hs] at r1 r2
      have hbit := bit_at B k
      have hd := implDoubled A
      have hp := implPlus O A
      cases hb : (B >>> k).getLsbD 0 with
      | true =>
        rw [hb] at hbit
        have HR : Hid (P = (O ^^^ A) ^^^ W.gm (W.xt A) (B >>> (k + 1))) := r1 hb
        clear r1 r2 hs hr
        generalize W.xt A = A' at *
        generalize O ^^^ A = O' at *
        go_wp2_with fail
        refine (hp _).mono ?_
        rintro e w1 ⟨rfl, rfl⟩
        go_wp2_with fail
        refine (hd _).mono ?_
        rintro e w2 ⟨rfl, rfl⟩
        go_wp2_with fail
        go_round
        case rel => exact ⟨A', O', k + 1, rfl, rfl, by go_num, by omega, HR.out⟩
        case measure => simp [intOf]; omega
      | false =>
        rw [hb] at hbit
        have HR : Hid (P = O ^^^ W.gm (W.xt A) (B >>> (k + 1))) := r2 hb
        clear r1 r2 hs hr
        generalize W.xt A = A' at *
        go_wp2_with fail
        refine (hd _).mono ?_
        rintro e w2 ⟨rfl, rfl⟩
        go_wp2_with fail
        go_round
        case rel => exact ⟨A', O, k + 1, rfl, rfl, by go_num, by omega, HR.out⟩
        case measure => simp [intOf]; omega
    · have hlt' : ¬ (k : Int) < 8 := by omega
      obtain rfl : k = 8 := by omega
      have HR : Hid (P = O) := by
        have e : B >>> 8 = 0#8 := by apply BitVec.eq_of_toNat_eq; simp [BitVec.toNat_ushiftRight, Nat.shiftRight_eq_div_pow]; have := B.isLt; omega
        rw [e, W.gm_zero, BitVec.xor_zero] at hr
        exact hr
      clear hr
      go_wp2_with fail
      go_ret
      exact ⟨by rw [HR.out]; rfl, rfl⟩
set_option maxHeartbeats 1000000 in
theorem implPower (A : B8) (n : Nat) (w : World) (h : n ≤ 1000) : Calls Try.prog 85 #[.int .u8 (A.toNat : Int), .int .i64 (n : Int)] w fun e w' => e = .returned (.int .u8 ((W.gp A n).toNat : Int)) ∧ w' = w := by
  go_enter Try.func85, Try.ntmps85
  go_wp2_with fail
  go_loop [5, 7] (fun o i => ∃ k : Nat, i = .int .i64 k ∧ k ≤ n ∧ o = .int .u8 ((W.gp A k).toNat : Int)) (fun _ i => n - (intOf i).toNat)
  case atStart => exact ⟨0, rfl, Nat.zero_le _, by rw [W.gp_0]; rfl⟩
  case round =>
    obtain ⟨k, rfl, hk, rfl⟩ := hrel
    by_cases hlt : k < n
    · have hlt' : (k : Int) < (n : Int) := by omega
      have hc := implTimes (W.gp A k) A
      rw [← W.gp_succ] at hc
      go_wp2_with fail
      refine (hc _).mono ?_
      rintro e w1 ⟨rfl, rfl⟩
      go_wp2_with fail
      go_round
      case rel => exact ⟨k + 1, by go_num, by omega, rfl⟩
      case measure => simp [intOf]; omega
    · have hlt' : ¬ (k : Int) < (n : Int) := by omega
      obtain rfl : k = n := by omega
      go_wp2_with fail
      go_ret
      exact ⟨rfl, rfl⟩
theorem gi_power (A : B8) : W.gi A = W.gp A 254 := by
  unfold W.gi
  by_cases h : A = 0#8
  · rw [if_pos h, h, W.gp_succ 0#8 253, W.gm_zero]
  · exact if_neg h
theorem implInverse (A : B8) (w : World) : Calls Try.prog 80 #[.int .u8 (A.toNat : Int)] w fun e w' => e = .returned (.int .u8 ((W.gi A).toNat : Int)) ∧ w' = w := by
  have hc := fun w => implPower A 254 w (by omega)
  rw [← gi_power] at hc
  have HC : Hid _ := hc
  clear hc
  go_enter Try.func80, Try.ntmps80
  go_wp2_with fail
  refine (HC.out _).mono ?_
  rintro e w1 ⟨rfl, rfl⟩
  go_wp2_with fail
  go_ret
  exact ⟨rfl, rfl⟩
end Go.Proofs.Ytdlgailodhlbmaa
/- ByA: Rows of rows of bytes in memory: read, written, answered, made by append. Nothing of the program is read here. -/
namespace Go.Proofs.Ytdlgailodhlbmaa
open Go.RowKit
open W (B8)

def ucs (xs : List B8) : List Value := xs.map u8v
theorem ucs_len (xs : List B8) : (ucs xs).length = xs.length := by simp [ucs]
theorem ucs_get (xs : List B8) (j : Nat) (h : j < xs.length) : (ucs xs)[j]? = some (.int .u8 ((xs.getD j 0#8).toNat : Int)) := by simp [ucs, List.getD, h]
theorem ucs_set (xs : List B8) (j : Nat) (x : B8) : (ucs xs).set j (.int .u8 (x.toNat : Int)) = ucs (xs.set j x) := by simp [ucs, List.map_set]
theorem crow_byte {w : World} {a : Option Addr} {xs : List B8} (h : CRow w a (ucs xs)) (hp : 0 < xs.length) : ∃ b off, a = some ⟨b, off, none⟩ ∧ b < w.heap.size ∧ ∀ j, j < xs.length → w.cell? ⟨b, off + j, none⟩ = some (.int .u8 ((xs.getD j 0#8).toNat : Int)) := by
  obtain ⟨b, off, e, hb, hc⟩ := h (by rw [ucs_len]; exact hp)
  exact ⟨b, off, e, hb, fun j hj => hc j _ (ucs_get xs j hj)⟩
/-- A row of bytes that stands in a row of rows. -/
structure KS where
  loc : Option Addr
  row : List B8
  cap : Nat
instance : Inhabited KS := ⟨⟨none, [], 0⟩⟩
def ksv (s : KS) : Value := .slice s.loc s.row.length s.cap
def kvs (ss : List KS) : List Value := ss.map ksv
def kws (ss : List KS) : List (List B8) := ss.map (·.row)
theorem kvs_len (ss : List KS) : (kvs ss).length = ss.length := by simp [kvs]
theorem kws_len (ss : List KS) : (kws ss).length = ss.length := by simp [kws]
theorem kvs_get (ss : List KS) (i : Nat) (h : i < ss.length) : (kvs ss)[i]? = some (ksv ss[i]) := by simp [kvs, h]
theorem kws_get (ss : List KS) (i : Nat) (h : i < ss.length) : (kws ss)[i]'(by rw [kws_len]; exact h) = ss[i].row := by simp [kws]
theorem kws_snoc (ss : List KS) (s : KS) : kws (ss ++ [s]) = kws ss ++ [s.row] := by simp [kws]
/-- A row of rows that is read, its blocks in a range. -/
def KR (w : World) (a : Option Addr) (ss : List KS) (lo hi : Nat) : Prop := RRow w a (kvs ss) lo hi ∧ ∀ s ∈ ss, RRow w s.loc (ucs s.row) lo hi
theorem KR.turned {w w' : World} {a : Option Addr} {ss : List KS} {lo hi lo' hi' : Nat} (h : KR w a ss lo hi) (t : Turned w w' lo' hi') (hd : hi ≤ lo' ∨ hi' ≤ lo) : KR w' a ss lo hi := ⟨h.1.turned t hd, fun s hs => (h.2 s hs).turned t hd⟩
theorem KR.below {w w' : World} {a : Option Addr} {ss : List KS} {lo hi : Nat} (h : KR w a ss lo hi) (hb : Below w.heap.size w w') : KR w' a ss lo hi := ⟨h.1.below hb, fun s hs => (h.2 s hs).below hb⟩
theorem KR.wide {w : World} {a : Option Addr} {ss : List KS} {lo hi lo' hi' : Nat} (h : KR w a ss lo hi) (h1 : lo' ≤ lo) (h2 : hi ≤ hi') : KR w a ss lo' hi' := ⟨h.1.wide h1 h2, fun s hs => (h.2 s hs).wide h1 h2⟩
theorem KR.nil (w : World) (a : Option Addr) (lo hi : Nat) : KR w a [] lo hi := ⟨fun h => by simp [kvs] at h, by simp⟩
/-- What the walk wants of it: the outer row's place and cells. -/
theorem KR.at {w : World} {a : Option Addr} {ss : List KS} {lo hi : Nat} (h : KR w a ss lo hi) (hp : 0 < ss.length) : ∃ b off, a = some ⟨b, off, none⟩ ∧ b < w.heap.size ∧ ∀ i (hi : i < ss.length), w.cell? ⟨b, off + i, none⟩ = some (ksv ss[i]) := by
  obtain ⟨b, off, e, _, _, h3, h4⟩ := h.1 (by rw [kvs_len]; exact hp)
  exact ⟨b, off, e, h3, fun i hi => h4 i _ (kvs_get ss i hi)⟩
/-- A row of rows that may be written: each row in a block of its own, all in a range. -/
structure KW (w : World) (g : Nat) (ss : List KS) (lo hi : Nat) : Prop where
  out : WCells w g (kvs ss)
  glo : lo ≤ g
  ghi : g < hi
  rows : ∀ s ∈ ss, ∃ b, s.loc = some ⟨b, 0, none⟩ ∧ lo ≤ b ∧ b < hi ∧ b ≠ g ∧ WCells w b (ucs s.row) ∧ s.row.length ≤ s.cap
  apart : (ss.map KS.loc).Nodup
theorem KW.mr {w : World} {g : Nat} {ss : List KS} {lo hi : Nat} (h : KW w g ss lo hi) : KR w (some ⟨g, 0, none⟩) ss lo hi :=
  ⟨RRow.of_wcells h.out h.glo h.ghi, fun s hs => by obtain ⟨b, e, h1, h2, _, h3, _⟩ := h.rows s hs; rw [e]; exact RRow.of_wcells h3 h1 h2⟩
theorem KW.turned {w w' : World} {g : Nat} {ss : List KS} {lo hi lo' hi' : Nat} (h : KW w g ss lo hi) (t : Turned w w' lo' hi') (hd : hi ≤ lo' ∨ hi' ≤ lo) : KW w' g ss lo hi :=
  ⟨h.out.turned t (by have := h.glo; have := h.ghi; omega), h.glo, h.ghi, fun s hs => by
    obtain ⟨b, e, h1, h2, h3, h4, h5⟩ := h.rows s hs
    exact ⟨b, e, h1, h2, h3, h4.turned t (by omega), h5⟩, h.apart⟩
theorem KW.below {w w' : World} {g : Nat} {ss : List KS} {lo hi : Nat} (h : KW w g ss lo hi) (hb : Below w.heap.size w w') : KW w' g ss lo hi :=
  ⟨h.out.below hb h.out.1, h.glo, h.ghi, fun s hs => by
    obtain ⟨b, e, h1, h2, h3, h4, h5⟩ := h.rows s hs
    exact ⟨b, e, h1, h2, h3, h4.below hb h4.1, h5⟩, h.apart⟩
theorem KW.wide {w : World} {g : Nat} {ss : List KS} {lo hi lo' hi' : Nat} (h : KW w g ss lo hi) (h1 : lo' ≤ lo) (h2 : hi ≤ hi') : KW w g ss lo' hi' :=
  ⟨h.out, Nat.le_trans h1 h.glo, Nat.lt_of_lt_of_le h.ghi h2, fun s hs => by
    obtain ⟨b, e, q1, q2, q3, q4, q5⟩ := h.rows s hs
    exact ⟨b, e, by omega, by omega, q3, q4, q5⟩, h.apart⟩
/-- An answer of rows of bytes: nothing, or a row of rows that may be written. -/
def KAns (w : World) (v : Value) (X : List (List B8)) (lo hi : Nat) : Prop :=
  ∃ (a : Option Addr) (cap : Nat) (ss : List KS), v = .slice a ss.length cap ∧ kws ss = X ∧ ss.length ≤ cap ∧ (ss = [] ∨ ∃ g, a = some ⟨g, 0, none⟩ ∧ KW w g ss lo hi)
theorem KAns.empty (w : World) (a : Option Addr) (cap lo hi : Nat) : KAns w (.slice a 0 cap) [] lo hi := ⟨a, cap, [], rfl, rfl, Nat.zero_le _, .inl rfl⟩
/-- A value that is these rows of bytes. -/
def KSee (w : World) (v : Value) (X : List (List B8)) (lo hi : Nat) : Prop := ∃ (a : Option Addr) (cap : Nat) (ss : List KS), v = .slice a ss.length cap ∧ kws ss = X ∧ KR w a ss lo hi
theorem KAns.see {w : World} {v : Value} {X : List (List B8)} {lo hi : Nat} (h : KAns w v X lo hi) : KSee w v X lo hi := by
  obtain ⟨a, cap, ss, e, hr, _, h1⟩ := h
  refine ⟨a, cap, ss, e, hr, ?_⟩
  rcases h1 with rfl | ⟨g, rfl, hm⟩
  · exact KR.nil _ _ _ _
  · exact hm.mr
theorem KSee.turned {w w' : World} {v : Value} {X : List (List B8)} {lo hi lo' hi' : Nat} (h : KSee w v X lo hi) (t : Turned w w' lo' hi') (hd : hi ≤ lo' ∨ hi' ≤ lo) : KSee w' v X lo hi := by
  obtain ⟨a, cap, ss, e, hr, h1⟩ := h
  exact ⟨a, cap, ss, e, hr, h1.turned t hd⟩
theorem KSee.below {w w' : World} {v : Value} {X : List (List B8)} {lo hi : Nat} (h : KSee w v X lo hi) (hb : Below w.heap.size w w') : KSee w' v X lo hi := by
  obtain ⟨a, cap, ss, e, hr, h1⟩ := h
  exact ⟨a, cap, ss, e, hr, h1.below hb⟩
theorem KSee.wide {w : World} {v : Value} {X : List (List B8)} {lo hi lo' hi' : Nat} (h : KSee w v X lo hi) (h1 : lo' ≤ lo) (h2 : hi ≤ hi') : KSee w v X lo' hi' := by
  obtain ⟨a, cap, ss, e, hr, q⟩ := h
  exact ⟨a, cap, ss, e, hr, q.wide h1 h2⟩
theorem KAns.turned {w w' : World} {v : Value} {X : List (List B8)} {lo hi lo' hi' : Nat} (h : KAns w v X lo hi) (t : Turned w w' lo' hi') (hd : hi ≤ lo' ∨ hi' ≤ lo) : KAns w' v X lo hi := by
  obtain ⟨a, cap, ss, e, hr, hc, h1⟩ := h
  refine ⟨a, cap, ss, e, hr, hc, ?_⟩
  rcases h1 with rfl | ⟨g, rfl, hm⟩
  · exact .inl rfl
  · exact .inr ⟨g, rfl, hm.turned t hd⟩
theorem KAns.below {w w' : World} {v : Value} {X : List (List B8)} {lo hi : Nat} (h : KAns w v X lo hi) (hb : Below w.heap.size w w') : KAns w' v X lo hi := by
  obtain ⟨a, cap, ss, e, hr, hc, h1⟩ := h
  refine ⟨a, cap, ss, e, hr, hc, ?_⟩
  rcases h1 with rfl | ⟨g, rfl, hm⟩
  · exact .inl rfl
  · exact .inr ⟨g, rfl, hm.below hb⟩
/-- What an answer of rows of bytes is: new memory alone. -/
def KPost (X : List (List B8)) (w : World) (e : Ending) (w' : World) : Prop := ∃ v, e = .returned v ∧ KAns w' v X w.heap.size w'.heap.size ∧ Below w.heap.size w w'
/-- A row of bytes is not the row of rows. -/
theorem krow_apart {w : World} {b B t n : Nat} {v : Value} {row : List B8} {ts : List KS} (h : WCells w b (ucs row)) (hr : row ≠ []) (ho : w.ownsRow B t 1 v n (kvs ts)) (hts : ts ≠ []) : v.ownBlock ≠ some b := by
  intro e
  have hc := ho.cells e
  obtain ⟨x, r, rfl⟩ := List.exists_cons_of_ne_nil hr
  obtain ⟨s, t', rfl⟩ := List.exists_cons_of_ne_nil hts
  have h1 := (h.2 0 (u8v x) rfl).1
  have h2 := hc 0 (ksv s) rfl
  have e2 : (⟨b, 0, none⟩ : Addr).add 0 = ⟨b, 0, none⟩ := by simp [Addr.add]
  rw [e2, h1] at h2
  simp [ksv] at h2
/-- Where the making of a row of rows stands. -/
structure KI (w wr : World) (v : Value) (ts : List KS) : Prop where
  own : wr.ownsRow w.heap.size 82 1 v ts.length (kvs ts)
  rows : ∀ s ∈ ts, ∃ b, s.loc = some ⟨b, 0, none⟩ ∧ w.heap.size ≤ b ∧ WCells wr b (ucs s.row) ∧ s.row.length ≤ s.cap ∧ s.row ≠ []
  apart : (ts.map KS.loc).Nodup
  bel : Below w.heap.size w wr
theorem KI.start (w : World) {wr : World} {v : Value} (ho : wr.ownsRow w.heap.size 82 1 v 0 []) (hb : Below w.heap.size w wr) : KI w wr v [] := ⟨ho, by simp, List.nodup_nil, hb⟩
theorem KI.below {w wr w' : World} {v : Value} {ts : List KS} (h : KI w wr v ts) (hb : Below wr.heap.size wr w') : KI w w' v ts :=
  ⟨h.own.kept (row := none) ⟨hb.os, hb.tape, hb.output, hb.size, fun k hk _ => hb.block k hk⟩ (Classical.em _), fun s hs => by
    obtain ⟨b, e, q1, q2, q3⟩ := h.rows s hs
    exact ⟨b, e, q1, q2.below hb q2.1, q3⟩, h.apart, h.bel.trans (hb.mono h.bel.size)⟩
/-- A block beyond is turned. -/
theorem KI.other {w wr w' : World} {v : Value} {ts : List KS} {B g : Nat} (h : KI w wr v ts) (hg : wr.grownBy w' (some g)) (hB : B ≤ g) (ho : ∀ q, v.ownBlock = some q → q < B) (hr : ∀ s ∈ ts, ∀ b, s.loc = some ⟨b, 0, none⟩ → b < B) (hw : w.heap.size ≤ B) (hs : w.heap.size ≤ wr.heap.size) : KI w w' v ts := by
  refine ⟨h.own.kept hg (.inr fun e => by have := ho g e; omega), fun s hs' => ?_, h.apart, h.bel.grown hg hs (fun k e => by cases e; omega)⟩
  obtain ⟨b, e, q1, q2, q3⟩ := h.rows s hs'
  exact ⟨b, e, q1, q2.apart hg (by have := hr s hs' b e; omega), q3⟩
theorem KI.append {w wr w1 : World} {v v' : Value} {ts : List KS} {o : Obj} {b : Nat} {row : List B8} {cap : Nat} (h : KI w wr v ts) (hb : w.heap.size ≤ b) (hrow : WCells wr b (ucs row)) (hne : row ≠ []) (hcap : row.length ≤ cap)
    (hv : ∀ q, v.ownBlock = some q → q ≠ b) (hnew : ∀ s ∈ ts, s.loc ≠ some ⟨b, 0, none⟩)
    (hown : w1.ownsRow w.heap.size 82 1 v' (ts.length + 1) (kvs ts ++ [.slice (some ⟨b, 0, none⟩) row.length cap])) (hg : (wr.alloc o).grownBy w1 v.ownBlock) : KI w w1 v' (ts ++ [KS.mk (some ⟨b, 0, none⟩) row cap]) := by
  have keep : ∀ {c : Nat} {L : List Value}, WCells wr c L → (∀ q, v.ownBlock = some q → q ≠ c) → WCells w1 c L := fun {c L} hc hq => by
    have h1 : WCells (wr.alloc o) c L := hc.below ((Below.refl wr.heap.size wr).alloc (Nat.le_refl _) o) hc.1
    refine ⟨Nat.lt_of_lt_of_le h1.1 hg.size, fun i u hu => ?_⟩
    have hbk : w1.heap[c]? = (wr.alloc o).heap[c]? := hg.block c h1.1 (fun e => hq c e.symm rfl)
    exact ⟨(World.cell?_of_block (a := ⟨c, i, none⟩) hbk).trans (h1.2 i u hu).1, (World.frozen?_of_block (a := ⟨c, i, none⟩) hbk).trans (h1.2 i u hu).2⟩
  refine ⟨?_, fun s hs => ?_, ?_, (h.bel.alloc h.bel.size o).grown hg (by have := h.bel.size; simp; omega) (fun k e => (h.own.lt k e).1)⟩
  · have e : kvs (ts ++ [KS.mk (some ⟨b, 0, none⟩) row cap]) = kvs ts ++ [.slice (some ⟨b, 0, none⟩) row.length cap] := by simp [kvs, ksv]
    rw [e, List.length_append]
    exact hown
  · rcases List.mem_append.1 hs with h1 | h1
    · obtain ⟨c, e, q1, q2, q3, q4⟩ := h.rows s h1
      refine ⟨c, e, q1, keep q2 (fun q hq => ?_), q3, q4⟩
      have := krow_apart q2 q4 h.own (List.ne_nil_of_mem h1)
      intro e2; subst e2; exact this hq
    · simp at h1
      subst h1
      exact ⟨b, rfl, hb, keep hrow hv, hcap, hne⟩
  · rw [List.map_append, List.nodup_append]
    refine ⟨h.apart, by simp, fun l hl l' hl' => ?_⟩
    obtain ⟨s, hs, rfl⟩ := List.mem_map.1 hl
    simp only [List.map_cons, List.map_nil, List.mem_singleton] at hl'
    subst hl'
    exact hnew s hs
theorem KI.fin {w wr : World} {v : Value} {ts : List KS} {X : List (List B8)} (h : KI w wr v ts) (hX : kws ts = X) : KAns wr v X w.heap.size wr.heap.size := by
  have hlt := h.own.lt
  have hown := h.own
  obtain ⟨_, ⟨rfl, h0⟩ | ⟨g, cap, cur, rfl, hB, hcur, hn, _⟩⟩ := hown
  · have : ts = [] := List.eq_nil_of_length_eq_zero h0
    subst this
    exact ⟨none, 0, [], rfl, hX, Nat.le_refl _, .inl rfl⟩
  · refine ⟨_, cap, ts, rfl, hX, hn, ?_⟩
    by_cases hts : ts = []
    · exact .inl hts
    · refine .inr ⟨g, rfl, own_wcells h.own, hB, (hlt g rfl).2, fun s hs => ?_, h.apart⟩
      obtain ⟨b, e, q1, q2, q3, q4⟩ := h.rows s hs
      refine ⟨b, e, q1, q2.1, fun eb => ?_, q2, q3⟩
      subst eb
      exact krow_apart q2 q4 h.own hts rfl
end Go.Proofs.Ytdlgailodhlbmaa
/- PrC: The program's own intsOf, matrixOf, ones. -/
namespace Go.Proofs.Ytdlgailodhlbmaa
open Go.RowKit
open W (B8)
attribute [local go_sem ↓] Go.wp_at_zero Go.wp_at_succ
attribute [local irreducible] W.gm W.xt W.gp W.gi

theorem infoRowB : (Try.prog.info? 82).map (fun i => (i.zero, i.size, i.bytes)) = some (some (.slice none 0 0), 1, 24) := by kernel_rfl
theorem infoB : (Try.prog.info? 71).map (fun i => (i.zero, i.size, i.bytes)) = some (some (.int .u8 0), 1, 1) := by kernel_rfl
/-- Bytes as numbers. -/
def toI (r : List B8) : List Int := r.map fun A => (A.toNat : Int)
def toIs (K : List (List B8)) : List (List Int) := K.map toI
theorem toI_len (r : List B8) : (toI r).length = r.length := by simp [toI]
theorem toI_ne {r : List B8} (h : r ≠ []) : toI r ≠ [] := fun e => h (by simpa [toI] using e)
/-- Rows that are none of them nothing. -/
def NE (K : List (List B8)) : Prop := ∀ r ∈ K, r ≠ [] ∧ r.length ≤ 1000
theorem own_at {w : World} {B n sz : Nat} {t : TypeId} {v : Value} {L : List Value} (h : w.ownsRow B t sz v n L) (hp : 0 < n) : ∃ g cap, v = .slice (some ⟨g, 0, none⟩) n cap ∧ n ≤ cap := by
  rcases h.2 with ⟨_, h0⟩ | ⟨g, cap, _, rfl, _, _, hc, _⟩
  · omega
  · exact ⟨g, cap, rfl, hc⟩
theorem BI.newrow {w wo wi : World} {v : Value} {ts : List SR} {gr : Nat} (h : BI w wo v ts) (hb : Below wo.heap.size wo wi) (hg : wo.heap.size ≤ gr) : BI w wi v ts ∧ (∀ q, v.ownBlock = some q → q ≠ gr) ∧ ∀ s ∈ ts, s.loc ≠ some ⟨gr, 0, none⟩ :=
  ⟨h.below hb, fun q hq => by have := (h.own.lt q hq).2; omega, fun s hs e => by obtain ⟨b', e', _, q, _⟩ := h.rows s hs; have : b' = gr := congrArg Addr.block (Option.some.inj (e'.symm.trans e)); have := q.1; omega⟩
/-- Rows that were made by append, and are answered. -/
def BPostI (X : List (List Int)) (w : World) (e : Ending) (w' : World) : Prop := ∃ v ts, e = .returned v ∧ rws ts = X ∧ BI w w' v ts
set_option maxRecDepth 100000 in
set_option maxHeartbeats 2000000 in
theorem implIntsOfB (w : World) (v : Value) (K : List (List B8)) (lo hi : Nat) (hs : KSee w v K lo hi) (hne : NE K) (hl : K.length ≤ 1000) :
    Calls Try.prog 57 #[v] w fun e w' => BPostI (toIs K) w e w' := by
  obtain ⟨a, cap, ss, rfl, hr, hm⟩ := hs
  obtain ⟨i0, hi0, hz0, hz1, hz2⟩ := info_parts infoRow
  obtain ⟨i1, hi1, hy0, hy1, hy2⟩ := info_parts infoIntG
  have HM := Shut.mk hm
  have HX := Shut.mk (show kws ss = K from hr)
  obtain ⟨n, hn⟩ : ∃ n, n = ss.length := ⟨_, rfl⟩
  have HN : Hid (n = ss.length ∧ K.length = n) := ⟨hn, by rw [← hr, kws_len, hn]⟩
  have HE := Shut.mk hne
  have hn1 : n ≤ 1000 := by have := HN.out.2; omega
  rw [← hn]
  clear hm hr hne hn hl
  go_enter Try.func57, Try.ntmps57
  go_wp2_with fail
  go_loopw [3, 11] (fun v i wr => ∃ (ts : List SR) (vv : Value), vv = v ∧ i = .int .i64 (ts.length : Nat) ∧ ts.length ≤ n ∧ Shut (rws ts = (toIs K).take ts.length) ∧ Shut (BI w wr vv ts)) (fun _ i _ => n - (intOf i).toNat)
  case atStart => exact ⟨[], _, rfl, rfl, by simp, ⟨rfl⟩, ⟨BI.start w (World.ownsRow_nil _ _ _ _) (Below.refl _ _)⟩⟩
  case round =>
    obtain ⟨ts, v, rfl, rfl, hk, hrw, hbi⟩ := hrel
    obtain ⟨wo, rfl⟩ : ∃ wo, wo = wr := ⟨_, rfl⟩
    obtain ⟨i, hie⟩ : ∃ i, i = ts.length := ⟨_, rfl⟩
    have HI : Hid (i = ts.length) := hie
    rw [← hie] at hk ⊢
    clear hie
    by_cases hlt : i < n
    · have hls : i < ss.length := by have := HN.out.1; omega
      have hso := hbi.out.bel.size
      obtain ⟨b, off, rfl, lb, hcell⟩ := (HM.out.below hbi.out.bel).at (by omega)
      have d1 := hcell i hls
      have hrr := ((HM.out.below hbi.out.bel).2 ss[i] (List.getElem_mem hls)).crow
      have hmem : ss[i].row ∈ K := by rw [← HX.out]; exact List.mem_map.2 ⟨ss[i], List.getElem_mem hls, rfl⟩
      have hne := HE.out _ hmem
      have hget : K[i]'(by have := HN.out.2; omega) = ss[i].row := by
        have := kws_get ss i hls
        simp only [HX.out] at this
        exact this
      unfold ksv at d1
      obtain ⟨row, hrow⟩ : ∃ row, row = ss[i].row := ⟨_, rfl⟩
      rw [← hrow] at d1 hrr hne hget
      generalize ss[i].loc = loc at *
      generalize ss[i].cap = cp at *
      have HST := Shut.mk (show (toIs K).take (i + 1) = (toIs K).take i ++ [toI row] by
        have hi2 : i < (toIs K).length := by unfold toIs; rw [List.length_map]; have := HN.out.2; omega
        rw [List.take_succ_eq_append_getElem hi2]
        simp only [toIs, List.getElem_map, hget])
      obtain ⟨m, hm⟩ : ∃ m, m = row.length := ⟨_, rfl⟩
      have HMR : Hid (m = row.length) := hm
      rw [← hm] at d1 hne
      obtain ⟨hne1, hm1⟩ := hne
      have hm0 : 0 < m := by rw [hm]; exact List.length_pos_iff.2 hne1
      have HR := Shut.mk hrr
      have HNE : Hid (row ≠ []) := hne1
      have k0 : (0 : Int) ≤ (i : Int) := by omega
      have k1 : (i : Int) < (n : Int) := by omega
      clear hm hrow hcell hmem hrr hget hne1
      go_wp2_with fail
      go_loopw [6, 17] (fun rv kk wq => ∃ (k : Nat) (rr : Value), rr = rv ∧ kk = .int .i64 k ∧ k ≤ m ∧ Shut (wq.ownsRow wo.heap.size 3 1 rr k (ics (toI (row.take k)))) ∧ Shut (Below wo.heap.size wo wq)) (fun _ kk _ => m - (intOf kk).toNat)
      case atStart => exact ⟨0, _, rfl, rfl, by omega, ⟨World.ownsRow_nil _ _ _ _⟩, ⟨Below.refl _ _⟩⟩
      case round =>
        obtain ⟨k, rr, rfl, rfl, hkm, hown, hbq⟩ := hrel
        obtain ⟨wi, rfl⟩ : ∃ wi, wi = wr := ⟨_, rfl⟩
        by_cases hkl : k < m
        · have hkr : k < row.length := by have := HMR.out; omega
          have hkl' : (k : Int) < (m : Int) := by omega
          have kk0 : (0 : Int) ≤ (k : Int) := by omega
          obtain ⟨b', o', rfl, lb', hc'⟩ := crow_byte (HR.out.stays hbq.out) (by omega)
          have d2 := hc' k hkr
          have hlx := b8_lt (row.getD k 0#8)
          have hst : ics (toI (row.take (k + 1))) = ics (toI (row.take k)) ++ [.int .i64 ((row.getD k 0#8).toNat : Int)] := by
            have e : row[k] = row.getD k 0#8 := by simp [List.getD, hkr]
            rw [List.take_succ_eq_append_getElem hkr, e]
            simp [toI, ics]
          generalize row.getD k 0#8 = x at *
          have HS2 := Shut.mk hst
          have hown3 := hown.out
          have hs3 := hbq.out.size
          clear hst hc' hown
          go_wp2_with (at_builtin; refine wpList_append_own _ rfl _ _ 32 rfl wo.heap.size 3 i1 (.int .i64 0) 1 8 Try.underlying32 hi1 hy0 hy1 hy2 rfl (by decide) _ _ _ rfl (hown3.alloc _) ⟨wi.heap.size, 0, none⟩ 1 1 [.int .i64 (x.toNat : Int)] rfl rfl (cell_one_new _ _ _) ?c2 ?c3 ?c4 ?c5 ?_)
          case c2 => first | rfl | (intro u hu; simp at hu; subst hu; rfl)
          case c3 => unfold maxLen; omega
          case c4 => omega
          case c5 => first | omega | (simp; omega)
          intro v' w4 hown' hgrow _
          rw [← HS2.out] at hown'
          have Q1 := Shut.mk hown'
          have Q2 := Shut.mk ((hbq.out.alloc hs3 (.cells #[.int .i64 (x.toNat : Int)] 3)).grown hgrow (by simp; omega) (fun j hj => (hown3.lt j hj).1))
          clear hown' hgrow hown3 hbq
          go_wp2_with fail
          go_roundw
          case rel => exact ⟨k + 1, v', rfl, by go_num, by omega, Q1, Q2⟩
          case measure => simp [intOf]; omega
        · have e : k = m := by omega
          have hkl' : ¬ (k : Int) < (m : Int) := by omega
          have hown2 := hown.out
          rw [List.take_of_length_le (by have := HMR.out; omega)] at hown2
          obtain ⟨gr, cr, rfl, hcr⟩ := own_at hown2 (by omega)
          have hgr := hown2.lt gr rfl
          have HROW := Shut.mk (own_wcells hown2)
          have HBI := Shut.mk (hbi.out.newrow hbq.out hgr.1)
          have hsi : wo.heap.size ≤ wi.heap.size := hbq.out.size
          have hgr1 := hgr.1
          have hown := HBI.out.1.own
          clear hown2 hbq hbi hgr
          rw [e] at *
          clear e
          go_wp2_with (at_builtin; refine wpList_append_own _ rfl _ _ 36 rfl w.heap.size 32 i0 (.slice none 0 0) 1 24 Try.underlying36 hi0 hz0 hz1 hz2 rfl (by decide) _ _ _ rfl (hown.alloc _) ⟨wi.heap.size, 0, none⟩ 1 1 [.slice (some ⟨gr, 0, none⟩) m cr] rfl rfl (cell_one_new _ _ _) ?c2 ?c3 ?c4 ?c5 ?_)
          case c2 => first | rfl | (intro u hu; simp at hu; subst hu; rfl)
          case c3 => unfold maxLen; have := HI.out; omega
          case c4 => have := HI.out; omega
          case c5 => first | omega | (simp; omega)
          intro v' w6 hown' hgrow _
          have hlen : (toI row).length = m := by rw [toI_len, HMR.out]
          have hap := HBI.out.1.append (cap := cr) (by omega) HROW.out (toI_ne HNE.out) (by rw [hlen]; exact hcr) HBI.out.2.1 HBI.out.2.2 (by rw [hlen]; exact hown') hgrow
          have HAP := Shut.mk hap
          have HR2 : Shut (rws (ts ++ [SR.mk (some ⟨gr, 0, none⟩) (toI row) cr]) = (toIs K).take (i + 1)) := ⟨by rw [rws_snoc, hrw.out, HST.out, HI.out]⟩
          clear hap hown' hgrow hown HBI HROW hrw hlen
          go_wp2_with fail
          go_roundw
          case rel => exact ⟨_, v', rfl, by rw [List.length_append, List.length_singleton, ← HI.out]; go_num, by rw [List.length_append, List.length_singleton, ← HI.out]; omega, ⟨by rw [List.length_append, List.length_singleton, ← HI.out]; exact HR2.out⟩, HAP⟩
          case measure => simp [intOf]; omega
    · have e : i = n := by omega
      have hlt' : ¬ (i : Int) < (n : Int) := by omega
      have HF := Shut.mk (show rws ts = toIs K by
        rw [hrw.out, List.take_of_length_le (by unfold toIs; rw [List.length_map]; have := HN.out.2; have := HI.out; omega)])
      have HB := Shut.mk hbi.out
      clear e hbi hrw
      go_wp2_with fail
      go_ret
      exact ⟨v, ts, rfl, HF.out, HB.out⟩
theorem implIntsOf (w : World) (v : Value) (K : List (List B8)) (lo hi : Nat) (hs : KSee w v K lo hi) (hne : NE K) (hl : K.length ≤ 1000) :
    Calls Try.prog 57 #[v] w fun e w' => MPost (toIs K) w e w' := (implIntsOfB w v K lo hi hs hne hl).mono fun _ _ ⟨v, _, he, hr, hb⟩ => ⟨v, he, hb.fin hr, hb.bel⟩
end Go.Proofs.Ytdlgailodhlbmaa
/- PrD: The program's own matrixOf. -/
namespace Go.Proofs.Ytdlgailodhlbmaa
open Go.RowKit
open W (B8)
attribute [local go_sem ↓] Go.wp_at_zero Go.wp_at_succ
attribute [local irreducible] W.gm W.xt W.gp W.gi

/-- Numbers as bytes. -/
def toB (r : List Int) : List B8 := r.map g8
def toBs (X : List (List Int)) : List (List B8) := X.map toB
theorem toB_len (r : List Int) : (toB r).length = r.length := by simp [toB]
theorem toB_ne {r : List Int} (h : r ≠ []) : toB r ≠ [] := fun e => h (by simpa [toB] using e)
def NEI (X : List (List Int)) : Prop := ∀ r ∈ X, r ≠ [] ∧ r.length ≤ 1000
theorem KI.newrow {w wo wi : World} {v : Value} {ts : List KS} {gr : Nat} (h : KI w wo v ts) (hb : Below wo.heap.size wo wi) (hg : wo.heap.size ≤ gr) : KI w wi v ts ∧ (∀ q, v.ownBlock = some q → q ≠ gr) ∧ ∀ s ∈ ts, s.loc ≠ some ⟨gr, 0, none⟩ :=
  ⟨h.below hb, fun q hq => by have := (h.own.lt q hq).2; omega, fun s hs e => by obtain ⟨b', e', _, q, _⟩ := h.rows s hs; have : b' = gr := congrArg Addr.block (Option.some.inj (e'.symm.trans e)); have := q.1; omega⟩
set_option maxRecDepth 100000 in
set_option maxHeartbeats 2000000 in
theorem implMatrixOf (w : World) (v : Value) (X : List (List Int)) (lo hi : Nat) (hs : MSee w v X lo hi) (hne : NEI X) (hl : X.length ≤ 1000) :
    Calls Try.prog 55 #[v] w fun e w' => KPost (toBs X) w e w' := by
  obtain ⟨a, cap, ss, rfl, hr, hm⟩ := hs
  obtain ⟨i0, hi0, hz0, hz1, hz2⟩ := info_parts infoRowB
  obtain ⟨i1, hi1, hy0, hy1, hy2⟩ := info_parts infoB
  have HM := Shut.mk hm
  have HX := Shut.mk (show rws ss = X from hr)
  obtain ⟨n, hn⟩ : ∃ n, n = ss.length := ⟨_, rfl⟩
  have HN : Hid (n = ss.length ∧ X.length = n) := ⟨hn, by rw [← hr, rws_len, hn]⟩
  have HE := Shut.mk hne
  have hn1 : n ≤ 1000 := by have := HN.out.2; omega
  rw [← hn]
  clear hm hr hne hn hl
  go_enter Try.func55, Try.ntmps55
  go_wp2_with fail
  go_loopw [3, 11] (fun v i wr => ∃ (ts : List KS) (vv : Value), vv = v ∧ i = .int .i64 (ts.length : Nat) ∧ ts.length ≤ n ∧ Shut (kws ts = (toBs X).take ts.length) ∧ Shut (KI w wr vv ts)) (fun _ i _ => n - (intOf i).toNat)
  case atStart => exact ⟨[], _, rfl, rfl, by simp, ⟨rfl⟩, ⟨KI.start w (World.ownsRow_nil _ _ _ _) (Below.refl _ _)⟩⟩
  case round =>
    obtain ⟨ts, v, rfl, rfl, hk, hrw, hbi⟩ := hrel
    obtain ⟨wo, rfl⟩ : ∃ wo, wo = wr := ⟨_, rfl⟩
    obtain ⟨i, hie⟩ : ∃ i, i = ts.length := ⟨_, rfl⟩
    have HI : Hid (i = ts.length) := hie
    rw [← hie] at hk ⊢
    clear hie
    by_cases hlt : i < n
    · have hls : i < ss.length := by have := HN.out.1; omega
      have hso := hbi.out.bel.size
      obtain ⟨b, off, rfl, lb, hcell⟩ := (HM.out.below hbi.out.bel).at (by omega)
      have d1 := hcell i hls
      have hrr := ((HM.out.below hbi.out.bel).2 ss[i] (List.getElem_mem hls)).crow
      have hmem : ss[i].row ∈ X := by rw [← HX.out]; exact List.mem_map.2 ⟨ss[i], List.getElem_mem hls, rfl⟩
      have hne := HE.out _ hmem
      have hget : X[i]'(by have := HN.out.2; omega) = ss[i].row := by
        have := rws_get ss i hls
        simp only [HX.out] at this
        exact this
      unfold srv at d1
      obtain ⟨row, hrow⟩ : ∃ row, row = ss[i].row := ⟨_, rfl⟩
      rw [← hrow] at d1 hrr hne hget
      generalize ss[i].loc = loc at *
      generalize ss[i].cap = cp at *
      have HST := Shut.mk (show (toBs X).take (i + 1) = (toBs X).take i ++ [toB row] by
        have hi2 : i < (toBs X).length := by unfold toBs; rw [List.length_map]; have := HN.out.2; omega
        rw [List.take_succ_eq_append_getElem hi2]
        simp only [toBs, List.getElem_map, hget])
      obtain ⟨m, hm⟩ : ∃ m, m = row.length := ⟨_, rfl⟩
      have HMR : Hid (m = row.length) := hm
      rw [← hm] at d1 hne
      obtain ⟨hne1, hm1⟩ := hne
      have hm0 : 0 < m := by rw [hm]; exact List.length_pos_iff.2 hne1
      have HR := Shut.mk hrr
      have HNE : Hid (row ≠ []) := hne1
      have k0 : (0 : Int) ≤ (i : Int) := by omega
      have k1 : (i : Int) < (n : Int) := by omega
      clear hm hrow hcell hmem hrr hget hne1
      go_wp2_with fail
      go_loopw [6, 17] (fun rv kk wq => ∃ (k : Nat) (rr : Value), rr = rv ∧ kk = .int .i64 k ∧ k ≤ m ∧ Shut (wq.ownsRow wo.heap.size 71 1 rr k (ucs (toB (row.take k)))) ∧ Shut (Below wo.heap.size wo wq)) (fun _ kk _ => m - (intOf kk).toNat)
      case atStart => exact ⟨0, _, rfl, rfl, by omega, ⟨World.ownsRow_nil _ _ _ _⟩, ⟨Below.refl _ _⟩⟩
      case round =>
        obtain ⟨k, rr, rfl, rfl, hkm, hown, hbq⟩ := hrel
        obtain ⟨wi, rfl⟩ : ∃ wi, wi = wr := ⟨_, rfl⟩
        by_cases hkl : k < m
        · have hkr : k < row.length := by have := HMR.out; omega
          have hkl' : (k : Int) < (m : Int) := by omega
          have kk0 : (0 : Int) ≤ (k : Int) := by omega
          obtain ⟨b', o', rfl, lb', hc'⟩ := crow_int (HR.out.stays hbq.out) (by omega)
          have d2 := hc' k hkr
          have hst : ucs (toB (row.take (k + 1))) = ucs (toB (row.take k)) ++ [.int .u8 (row.getD k 0 % 256)] := by
            have e : row[k] = row.getD k 0 := by simp [List.getD, hkr]
            rw [List.take_succ_eq_append_getElem hkr, e]
            simp [toB, ucs, u8v, g8_nat]
          generalize row.getD k 0 = x at *
          have HS2 := Shut.mk hst
          have hown3 := hown.out
          have hs3 := hbq.out.size
          clear hst hc' hown
          go_wp2_with (at_builtin; refine wpList_append_own _ rfl _ _ 82 rfl wo.heap.size 71 i1 (.int .u8 0) 1 1 Try.underlying82 hi1 hy0 hy1 hy2 rfl (by decide) _ _ _ rfl (hown3.alloc _) ⟨wi.heap.size, 0, none⟩ 1 1 [.int .u8 (x % 256)] rfl rfl (cell_one_new _ _ _) ?c2 ?c3 ?c4 ?c5 ?_)
          case c2 => first | rfl | (intro u hu; simp at hu; subst hu; rfl)
          case c3 => unfold maxLen; omega
          case c4 => omega
          case c5 => first | omega | (simp; omega)
          intro v' w4 hown' hgrow _
          rw [← HS2.out] at hown'
          have Q1 := Shut.mk hown'
          have Q2 := Shut.mk ((hbq.out.alloc hs3 (.cells #[.int .u8 (x % 256)] 71)).grown hgrow (by simp; omega) (fun j hj => (hown3.lt j hj).1))
          clear hown' hgrow hown3 hbq
          go_wp2_with fail
          go_roundw
          case rel => exact ⟨k + 1, v', rfl, by go_num, by omega, Q1, Q2⟩
          case measure => simp [intOf]; omega
        · have e : k = m := by omega
          have hkl' : ¬ (k : Int) < (m : Int) := by omega
          have hown2 := hown.out
          rw [List.take_of_length_le (by have := HMR.out; omega)] at hown2
          obtain ⟨gr, cr, rfl, hcr⟩ := own_at hown2 (by omega)
          have hgr := hown2.lt gr rfl
          have HROW := Shut.mk (own_wcells hown2)
          have HBI := Shut.mk (hbi.out.newrow hbq.out hgr.1)
          have hsi : wo.heap.size ≤ wi.heap.size := hbq.out.size
          have hgr1 := hgr.1
          have hown := HBI.out.1.own
          clear hown2 hbq hbi hgr
          rw [e] at *
          clear e
          go_wp2_with (at_builtin; refine wpList_append_own _ rfl _ _ 67 rfl w.heap.size 82 i0 (.slice none 0 0) 1 24 Try.underlying67 hi0 hz0 hz1 hz2 rfl (by decide) _ _ _ rfl (hown.alloc _) ⟨wi.heap.size, 0, none⟩ 1 1 [.slice (some ⟨gr, 0, none⟩) m cr] rfl rfl (cell_one_new _ _ _) ?c2 ?c3 ?c4 ?c5 ?_)
          case c2 => first | rfl | (intro u hu; simp at hu; subst hu; rfl)
          case c3 => unfold maxLen; have := HI.out; omega
          case c4 => have := HI.out; omega
          case c5 => first | omega | (simp; omega)
          intro v' w6 hown' hgrow _
          have hlen : (toB row).length = m := by rw [toB_len, HMR.out]
          have hap := HBI.out.1.append (cap := cr) (by omega) HROW.out (toB_ne HNE.out) (by rw [hlen]; exact hcr) HBI.out.2.1 HBI.out.2.2 (by rw [hlen]; exact hown') hgrow
          have HAP := Shut.mk hap
          have HR2 : Shut (kws (ts ++ [KS.mk (some ⟨gr, 0, none⟩) (toB row) cr]) = (toBs X).take (i + 1)) := ⟨by rw [kws_snoc, hrw.out, HST.out, HI.out]⟩
          clear hap hown' hgrow hown HBI HROW hrw hlen
          go_wp2_with fail
          go_roundw
          case rel => exact ⟨_, v', rfl, by rw [List.length_append, List.length_singleton, ← HI.out]; go_num, by rw [List.length_append, List.length_singleton, ← HI.out]; omega, ⟨by rw [List.length_append, List.length_singleton, ← HI.out]; exact HR2.out⟩, HAP⟩
          case measure => simp [intOf]; omega
    · have e : i = n := by omega
      have hlt' : ¬ (i : Int) < (n : Int) := by omega
      have HF := Shut.mk (hbi.out.fin (X := toBs X) (by
        rw [hrw.out, List.take_of_length_le (by unfold toBs; rw [List.length_map]; have := HN.out.2; have := HI.out; omega)]))
      have HB := Shut.mk hbi.out.bel
      clear e hbi hrw
      go_wp2_with fail
      go_ret
      exact ⟨v, rfl, HF.out, HB.out⟩
end Go.Proofs.Ytdlgailodhlbmaa
/- PrE: The program's own ones. -/
namespace Go.Proofs.Ytdlgailodhlbmaa
open Go.RowKit
open W (B8)
attribute [local go_sem ↓] Go.wp_at_zero Go.wp_at_succ
attribute [local irreducible] W.gm W.xt W.gp W.gi

def oneU (t : B8) (n i : Nat) : List B8 := (List.replicate n 0#8).set i t
def onesU (t : B8) (n : Nat) : List (List B8) := (List.range n).map (oneU t n)
theorem oneU_len (t : B8) (n i : Nat) : (oneU t n i).length = n := by simp [oneU]
theorem made_bytes {wm : World} {B n g : Nat} (hownm : wm.ownsRow B 71 1 (.slice (some ⟨g, 0, none⟩) n n) n (madeCells #[Value.int .u8 0] n).toList) : WCells wm g (ucs (List.replicate n 0#8)) := by
  have h := own_wcells hownm
  have e : (madeCells #[Value.int .u8 0] n).toList = ucs (List.replicate n 0#8) := by rw [toList_madeCells_one]; simp [ucs, u8v]
  rw [e] at h
  exact h
set_option maxRecDepth 100000 in
set_option maxHeartbeats 2000000 in
theorem implOnes (t : B8) (n : Nat) (w : World) (hn1 : 1 ≤ n) (hn8 : n ≤ 8) : Calls Try.prog 67 #[.int .i64 (n : Int), .int .u8 (t.toNat : Int)] w fun e w' => KPost (onesU t n) w e w' := by
  obtain ⟨i0, hi0, hz0, hz1, hz2⟩ := info_parts infoRowB
  obtain ⟨i1, hi1, hy0, hy1, hy2⟩ := info_parts infoB
  go_enter Try.func67, Try.ntmps67
  go_wp2_with fail
  go_loopw [5, 9] (fun v i wr => ∃ (ts : List KS) (vv : Value), vv = v ∧ i = .int .i64 (ts.length : Nat) ∧ ts.length ≤ n ∧ Shut (kws ts = (List.range ts.length).map (oneU t n)) ∧ Shut (KI w wr vv ts)) (fun _ i _ => n - (intOf i).toNat)
  case atStart => exact ⟨[], _, rfl, rfl, by simp, ⟨rfl⟩, ⟨KI.start w (World.ownsRow_nil _ _ _ _) (Below.refl _ _)⟩⟩
  case round =>
    obtain ⟨ts, v, rfl, rfl, hk, hr, hbi⟩ := hrel
    obtain ⟨w1, rfl⟩ : ∃ w1, w1 = wr := ⟨_, rfl⟩
    by_cases hlt : ts.length < n
    · have hlt' : (ts.length : Int) < (n : Int) := by omega
      have k0 : (0 : Int) ≤ (ts.length : Int) := by omega
      have hsz := hbi.out.bel.size
      go_wp2_with (at_make; refine wpList_make_full _ rfl _ _ 82 rfl w1.heap.size 71 i1 _ 1 Try.underlying82 hi1 hy0 hy1 .i64 .i64 _ _ n rfl rfl (by omega) (by omega) ?b2 ?b3 ?b4 ?_)
      case b2 => rw [hy2]; omega
      case b3 => unfold maxLen; omega
      case b4 => omega
      intro wm hownm hgrm
      have hbm : Below w1.heap.size w1 wm := (Below.refl _ _).grown hgrm (Nat.le_refl _) (fun j hj => by simp at hj)
      have hrow : WCells wm w1.heap.size (ucs (List.replicate n 0#8)) := made_bytes hownm
      obtain ⟨c0, z0⟩ := hrow.2 ts.length _ (ucs_get _ ts.length (by simp; exact hlt))
      have hset := hrow.set ts.length (.int .u8 (t.toNat : Int)) (by rw [ucs_len]; simp; exact hlt)
      rw [ucs_set, show (List.replicate n 0#8).set ts.length t = oneU t n ts.length from rfl] at hset
      have hbi1 := hbi.out.below hbm
      have hot : KI w (wm.setCell ⟨w1.heap.size, ts.length, none⟩ (.int .u8 (t.toNat : Int))) v ts := hbi1.other (gb_set' _ _ _ _) (Nat.le_refl w1.heap.size) (fun q hq => (hbi.out.own.lt q hq).2) (fun s hs b e => by obtain ⟨b', e', _, q, _⟩ := hbi.out.rows s hs; have : b' = b := congrArg Addr.block (Option.some.inj (e'.symm.trans e)); have := q.1; omega) hsz hbi1.bel.size
      have HROW := Shut.mk hset
      have HBI := Shut.mk hot
      have HNEW := Shut.mk (hbi.out.newrow (Below.refl _ _) (Nat.le_refl w1.heap.size)).2
      clear hset hot hrow hownm hgrm hbi hbi1
      go_upto_region 7 with fail
      obtain ⟨W2, hW2⟩ : ∃ W2, W2 = wm.setCell ⟨w1.heap.size, ts.length, none⟩ (.int .u8 (t.toNat : Int)) := ⟨_, rfl⟩
      rw [← hW2]
      rw [← hW2] at HROW HBI
      have hs2 : w.heap.size ≤ W2.heap.size := HBI.out.bel.size
      have hown := HBI.out.own
      clear hW2 c0 z0 hbm
      go_wp2_with (at_builtin; refine wpList_append_own _ rfl _ _ 67 rfl w.heap.size 82 i0 (.slice none 0 0) 1 24 Try.underlying67 hi0 hz0 hz1 hz2 rfl (by decide) _ _ _ rfl (hown.alloc _) ⟨W2.heap.size, 0, none⟩ 1 1 [.slice (some ⟨w1.heap.size, 0, none⟩) n n] rfl rfl (cell_one_new _ _ _) ?c2 ?c3 ?c4 ?c5 ?_)
      case c2 => first | rfl | (intro u hu; simp at hu; subst hu; rfl)
      case c3 => unfold maxLen; omega
      case c4 => omega
      case c5 => first | omega | (simp; omega)
      · intro v' w6 hown' hgrow _
        have hne : oneU t n ts.length ≠ [] := fun e => by have := congrArg List.length e; rw [oneU_len] at this; simp at this; omega
        have hap := HBI.out.append (cap := n) hsz HROW.out hne (by rw [oneU_len]; exact Nat.le_refl _) HNEW.out.1 HNEW.out.2 (by rw [oneU_len]; exact hown') hgrow
        have HAP := Shut.mk hap
        have HR : Shut (kws (ts ++ [KS.mk (some ⟨w1.heap.size, 0, none⟩) (oneU t n ts.length) n]) = (List.range (ts.length + 1)).map (oneU t n)) := ⟨by rw [kws_snoc, hr.out, List.range_succ, List.map_append]; rfl⟩
        clear hap hown' hgrow hown HBI HROW HNEW hr
        go_wp2_with fail
        go_roundw
        case rel => exact ⟨_, v', rfl, by rw [List.length_append, List.length_singleton]; go_num, by rw [List.length_append, List.length_singleton]; omega, ⟨by rw [List.length_append, List.length_singleton]; exact HR.out⟩, HAP⟩
        case measure => simp [intOf]; omega
    · have e : ts.length = n := by omega
      have hlt' : ¬ (ts.length : Int) < (n : Int) := by omega
      have HF := Shut.mk (hbi.out.fin (X := onesU t n) (by rw [hr.out, e]; rfl))
      have HB := Shut.mk hbi.out.bel
      clear hbi hr e
      go_wp2_with fail
      go_ret
      exact ⟨v, rfl, HF.out, HB.out⟩
end Go.Proofs.Ytdlgailodhlbmaa
/- PrB: The program's own addTimes: a row, so many times, is added to another one, in place. -/
namespace Go.Proofs.Ytdlgailodhlbmaa
open Go.RowKit
open W (B8)
attribute [local go_sem ↓] Go.wp_at_zero Go.wp_at_succ
attribute [local irreducible] W.gm W.xt W.gp W.gi

theorem gb_drew {w w' : World} {r : Option Nat} (h : w.grownBy w' r) : w.grownBy w'.drew r := by
  have hb := Below.drew (Below.refl w'.heap.size w')
  exact ⟨hb.os.trans h.os, hb.tape.trans h.tape, hb.output.trans h.output, Nat.le_trans h.size hb.size, fun k hk hr => (hb.block k (Nat.lt_of_lt_of_le hk h.size)).trans (h.block k hk hr)⟩
/-- A row of a sum that is under way: the first k numbers are there. -/
def plusK (t : B8) (xs ys : List B8) (k : Nat) : List B8 := (List.range xs.length).map fun c => if c < k then xs.getD c 0#8 ^^^ W.gm t (ys.getD c 0#8) else xs.getD c 0#8
def plusU (t : B8) (xs ys : List B8) : List B8 := plusK t xs ys xs.length
theorem plusK_len (t : B8) (xs ys : List B8) (k : Nat) : (plusK t xs ys k).length = xs.length := by simp [plusK]
theorem plusU_len (t : B8) (xs ys : List B8) : (plusU t xs ys).length = xs.length := plusK_len _ _ _ _
theorem plusK_0 (t : B8) (xs ys : List B8) : plusK t xs ys 0 = xs := by
  apply List.ext_getElem (by simp [plusK])
  intro i h1 h2
  simp [plusK, List.getD, h2]
theorem plusK_at {t : B8} {xs ys : List B8} {k c : Nat} (h : c < xs.length) : (plusK t xs ys k).getD c 0#8 = if c < k then xs.getD c 0#8 ^^^ W.gm t (ys.getD c 0#8) else xs.getD c 0#8 := by
  unfold plusK
  rw [List.getD_eq_getElem?_getD, List.getElem?_map, List.getElem?_range h]; rfl
theorem plusU_at {t : B8} {xs ys : List B8} {c : Nat} (h : c < xs.length) : (plusU t xs ys).getD c 0#8 = xs.getD c 0#8 ^^^ W.gm t (ys.getD c 0#8) := by
  unfold plusU; rw [plusK_at h, if_pos h]
theorem plusK_set {t : B8} {xs ys : List B8} {k : Nat} (_ : k < xs.length) : (plusK t xs ys k).set k (xs.getD k 0#8 ^^^ W.gm t (ys.getD k 0#8)) = plusK t xs ys (k + 1) := by
  apply List.ext_getElem (by simp [plusK])
  intro c h1 h2
  simp only [plusK, List.getElem_set, List.getElem_map, List.getElem_range]
  by_cases e : k = c
  · subst e; rw [if_pos rfl, if_pos (by omega)]
  · rw [if_neg e]
    by_cases h : c < k
    · rw [if_pos h, if_pos (by omega)]
    · rw [if_neg h, if_neg (by omega)]
def AddPost (t : B8) (xs ys : List B8) (b : Nat) (w : World) (e : Ending) (w' : World) : Prop := (∃ v, e = .returned v) ∧ WCells w' b (ucs (plusU t xs ys)) ∧ w.grownBy w' (some b)
set_option maxRecDepth 100000 in
set_option maxHeartbeats 2000000 in
theorem implAddTimes (t : B8) (xs ys : List B8) (b cs c o cr n : Nat) (w : World) (hs : WCells w b (ucs xs)) (hr : ∀ j, j < n → w.cell? ⟨c, o + j, none⟩ = some (.int .u8 ((ys.getD j 0#8).toNat : Int))) (hc : c < w.heap.size) (hne : c ≠ b) (hx : xs.length = n) (hl : n ≤ 1000) :
    Calls Try.prog 86 #[.slice (some ⟨b, 0, none⟩) n cs, .int .u8 (t.toNat : Int), .slice (some ⟨c, o, none⟩) n cr] w fun e w' => AddPost t xs ys b w e w' := by
  have HS := Shut.mk hs
  have HR := Shut.mk hr
  have HX : Hid (xs.length = n) := hx
  clear hs hr hx
  go_enter Try.func86, Try.ntmps86
  go_wp2_with fail
  go_loopw [9] (fun i wr => ∃ k : Nat, i = .int .i64 k ∧ k ≤ n ∧ Shut (WCells wr b (ucs (plusK t xs ys k))) ∧ Shut (w.grownBy wr (some b))) (fun i _ => n - (intOf i).toNat)
  case atStart => exact ⟨0, rfl, Nat.zero_le _, ⟨by rw [plusK_0]; exact HS.out⟩, ⟨⟨rfl, rfl, rfl, Nat.le_refl _, fun _ _ _ => rfl⟩⟩⟩
  case round =>
    obtain ⟨k, rfl, hk, hw, hg⟩ := hrel
    by_cases hlt : k < n
    · have k0 : (0 : Int) ≤ (k : Int) := by omega
      have k1 : (k : Int) < (n : Int) := by omega
      have hkx : k < xs.length := by have := HX.out; omega
      have hat := plusK_at (t := t) (xs := xs) (ys := ys) (k := k) hkx
      rw [if_neg (Nat.lt_irrefl k)] at hat
      obtain ⟨d0, z0⟩ := hw.out.2 k _ (ucs_get _ k (by rw [plusK_len]; exact hkx))
      rw [hat] at d0
      have d1 : wr.cell? ⟨c, o + k, none⟩ = some (.int .u8 ((ys.getD k 0#8).toNat : Int)) := by
        rw [← HR.out k hlt]
        exact World.cell?_of_block (a := ⟨c, o + k, none⟩) (hg.out.block c hc (by intro e; cases e; exact hne rfl))
      have hset := hw.out.set k (.int .u8 ((xs.getD k 0#8 ^^^ W.gm t (ys.getD k 0#8)).toNat : Int)) (by rw [ucs_len, plusK_len]; exact hkx)
      rw [ucs_set, plusK_set hkx] at hset
      have ht := implTimes t (ys.getD k 0#8)
      have hp := implPlus (xs.getD k 0#8) (W.gm t (ys.getD k 0#8))
      generalize xs.getD k 0#8 = x at *
      generalize ys.getD k 0#8 = y at *
      generalize W.gm t y = m at *
      generalize x ^^^ m = z at *
      have HW2 := Shut.mk hset
      have HG2 := Shut.mk (gb_two' hg.out (gb_set' wr b k (.int .u8 (z.toNat : Int))))
      have HT := Shut.mk ht
      have HP := Shut.mk hp
      clear hset hw hg hat ht hp
      go_wp2_with fail
      go_region_with (first | (go_at_call 78; refine (HT.out _).mono ?_; rintro e w9 ⟨rfl, rfl⟩) | (go_at_call 77; refine (HP.out _).mono ?_; rintro e w10 ⟨rfl, rfl⟩))
      all_goals go_wp2_with fail
      all_goals exact ⟨⟨k + 1, by go_num, by omega, ⟨HW2.out.drew⟩, ⟨gb_drew HG2.out⟩⟩, by simp [intOf]; omega⟩
    · have e : k = n := by omega
      have hlt' : ¬ (k : Int) < (n : Int) := by omega
      have HF : Shut (WCells wr b (ucs (plusU t xs ys))) := by unfold plusU; rw [HX.out, ← e]; exact hw
      clear e
      go_wp2_with fail
      go_returns
      exact ⟨⟨_, rfl⟩, HF.out, hg.out⟩
end Go.Proofs.Ytdlgailodhlbmaa
