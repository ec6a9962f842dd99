/- Texts of ours, laid one behind the other: TreY, LawTre, LawTrn, SpnC, HexM, SpnD, NestB, NestC, SpnE. -/
import Derived.Test.YtfceohoegeebjaaPw4
import Derived.PlainAid
/- TreY: The walk of the model's RoomFor. -/
namespace Go.Proofs.Ytfceohoegeebjaa
open Go.RowKit
attribute [local go_sem ↓] Go.wp_at_zero Go.wp_at_succ

/-- Is there room, from here on up? -/
def roomF (T : TM) (m : Int) : Nat → Nat → Int → Bool
  | 0, _, _ => false
  | f + 1, st, id => match T.nodes.findIdx? (fun n => n.id == id) with
    | none => decide (0 < st)
    | some k => if (T.nodes.getD k default).dir = true ∧ 0 < (T.nodes.getD k default).quota ∧ (T.nodes.getD k default).quota - usedX T id < m then false else roomF T m f (st + 1) (T.nodes.getD k default).parent
theorem roomF_none {T : TM} {m c : Int} {f st : Nat} (h : T.nodes.findIdx? (fun n => n.id == c) = none) : roomF T m (f + 1) st c = decide (0 < st) := by
  conv => lhs; unfold roomF
  rw [h]
theorem roomF_some {T : TM} {m c : Int} {f st i : Nat} (h : T.nodes.findIdx? (fun n => n.id == c) = some i) : roomF T m (f + 1) st c = if (T.nodes.getD i default).dir = true ∧ 0 < (T.nodes.getD i default).quota ∧ (T.nodes.getD i default).quota - usedX T c < m then false else roomF T m f (st + 1) (T.nodes.getD i default).parent := by
  conv => lhs; unfold roomF
  rw [h]
def roomX (T : TM) (id m : Int) : Bool := if treeOk T = true then roomF T m 15 0 id else false
theorem nodeOk_quota {T : TM} {i : Nat} (h : nodeOk T i = true) (hd : (T.nodes.getD i default).dir = true) : 0 ≤ (T.nodes.getD i default).quota ∧ (T.nodes.getD i default).quota ≤ 1000 := by
  unfold nodeOk at h
  simp only [Bool.and_eq_true] at h
  have h3 := h.1.2
  rw [if_pos hd] at h3
  unfold dirOk at h3
  simp only [Bool.and_eq_true] at h3
  exact inI_iff.1 h3.1.1.1.2
theorem usedL_le {ns : List NM} {xs : List Int} (h : ∀ x ∈ xs, 0 ≤ (ns.getD (atI ns x).toNat default).len ∧ (ns.getD (atI ns x).toNat default).len ≤ 1000) : 0 ≤ usedL ns xs ∧ usedL ns xs ≤ 1000 * xs.length := by
  induction xs with
  | nil => simp [usedL]
  | cons x xs ih =>
    have h1 := ih (fun y hy => h y (by simp [hy]))
    have h2 := h x (by simp)
    simp only [usedL, List.length_cons]
    push_cast
    omega
theorem usedX_le (T : TM) (id : Int) : 0 ≤ usedX T id ∧ usedX T id ≤ 14000 := by
  unfold usedX
  have h := usedL_le (ns := T.nodes) (xs := belowX T id) (fun x hx => by
    obtain ⟨i, _, hat, h1⟩ := belowX_at hx
    rw [hat, Int.toNat_natCast]; exact h1)
  have := belowX_len T id
  omega
attribute [local irreducible] nodeOk treeOk atI belowF belowL belowX usedX
set_option maxRecDepth 100000 in
set_option maxHeartbeats 8000000 in
theorem specRoomFor {w : World} {v : Value} {T : TM} {lo hi : Nat} (id m : Int) (h : TSee w v T lo hi) (hf : NFit T) : Calls Try.prog 19 #[v, .int .i64 id, .int .i64 m] w fun e w' => e = .returned (.bool (roomX T id m)) ∧ Below w.heap.size w w' := by
  have hl : T.nodes.length ≤ 1048576 := by unfold NFit at hf; omega
  have h' := h
  obtain ⟨a, cap, rs, rfl, hr, hm⟩ := h
  obtain ⟨n, hn⟩ : ∃ n, n = rs.length := ⟨_, rfl⟩
  rw [← hn] at h' ⊢
  have HTS := Shut.mk (fun W (hW : Below w.heap.size w W) (c : Int) => specAt c (h'.below hW) hl)
  have HUS := Shut.mk (fun W (hW : Below w.heap.size w W) (c : Int) => specUsedBelow c (h'.below hW) hf)
  have HTO := Shut.mk (fun W (hW : Below w.heap.size w W) => specTreeOk (h'.below hW) hf)
  obtain ⟨R, hR⟩ : ∃ R, R = roomX T id m := ⟨_, rfl⟩
  rw [← hR]
  unfold roomX at hR
  obtain ⟨nodes, nx⟩ := T
  dsimp only at hr HTS HUS HTO hR
  subst hr
  have HM := Shut.mk (And.intro hm hn)
  have hn9 : n ≤ 1048576 := by dsimp only at hl; rw [nds_len] at hl; omega
  have HR := Shut.mk hR
  clear hm hf hR hn h' hl
  cases hok : treeOk ⟨nds rs, nx⟩ with
  | false =>
    have HE : Shut (R = false) := ⟨by rw [HR.out, if_neg (by rw [hok]; decide)]⟩
    rw [hok] at HTO
    clear hok
    go_enter Try.func19, Try.ntmps19
    go_upto_region 1 with fail
    refine wp_shade (fun W => BX w W a n cap nx) (BX.new w a n cap nx 26) ?_
    intro W hg
    have HG := Shut.mk hg
    have x0 := (hg.box.2 0 _ rfl).1
    have x1 := (hg.box.2 1 _ rfl).1
    clear hg
    go_wp2_with fail
    refine (HTO.out _ HG.out.bel).mono ?_
    rintro e W1 ⟨rfl, hb1⟩
    have HG1 := Shut.mk (HG.out.below hb1)
    clear hb1
    go_wp2_with fail
    go_ret
    exact ⟨by rw [HE.out]; rfl, HG1.out.bel⟩
  | true =>
    have HRR : Shut (R = roomF ⟨nds rs, nx⟩ m 15 0 id) := ⟨by rw [HR.out, if_pos hok]⟩
    have HOK := Shut.mk hok
    rw [hok] at HTO
    clear hok HR
    go_enter Try.func19, Try.ntmps19
    go_upto_region 1 with fail
    refine wp_shade (fun W => BX w W a n cap nx) (BX.new w a n cap nx 26) ?_
    intro W hg
    have HG := Shut.mk hg
    have x0 := (hg.box.2 0 _ rfl).1
    have x1 := (hg.box.2 1 _ rfl).1
    clear hg
    go_wp2_with fail
    refine (HTO.out _ HG.out.bel).mono ?_
    rintro e W1 ⟨rfl, hb1⟩
    have HG1 := Shut.mk (HG.out.below hb1)
    clear hb1 x0 x1 HG
    go_wp2_with fail
    go_loopw [1, 7] (fun iv mv wr => ∃ (s : Nat) (c : Int), iv = .int .i64 c ∧ mv = .int .i64 s ∧ s ≤ 15 ∧ Shut (R = roomF ⟨nds rs, nx⟩ m (15 - s) s c) ∧ Shut (BX w wr a n cap nx)) (fun _ mv _ => 15 - (intOf mv).toNat)
    case atStart => exact ⟨0, id, rfl, rfl, by omega, ⟨HRR.out⟩, HG1⟩
    case round =>
      clear HG1
      obtain ⟨s, c, rfl, rfl, hs15, hcl, HG⟩ := hrel
      by_cases hlt : s < 15
      · have m1 : (s : Int) ≤ 14 := by omega
        obtain ⟨f, hf⟩ : ∃ f, f = 15 - (s + 1) := ⟨_, rfl⟩
        have hcl' := hcl.out
        rw [show 15 - s = f + 1 by omega] at hcl'
        have x0 := (HG.out.box.2 0 _ rfl).1
        have x1 := (HG.out.box.2 1 _ rfl).1
        have HAT := Shut.mk (HTS.out wr HG.out.bel c)
        rcases at_cases (nds rs) c with ⟨hat, hfn⟩ | ⟨i, hi, hat, hfn⟩
        · have HE : Shut (R = decide ((0 : Int) < (s : Int))) := ⟨by rw [hcl', roomF_none hfn]; exact decide_eq_decide.2 ⟨fun h => by omega, fun h => by omega⟩⟩
          rw [hat] at HAT
          clear hcl' hcl hf hfn hat
          by_cases hs0 : 0 < s
          · have hsI : (0 : Int) < (s : Int) := by omega
            have HF : Shut (R = true) := ⟨by rw [HE.out, decide_eq_true hsI]⟩
            clear HE
            go_wp2_with fail
            refine HAT.out.mono ?_
            rintro e W6 ⟨rfl, hb6⟩
            have HG6 := Shut.mk (HG.out.below hb6)
            clear hb6
            go_wp2_with fail
            go_ret
            exact ⟨by rw [HF.out]; first | rfl | simp [hs0], HG6.out.bel⟩
          · have hs1 : s = 0 := by omega
            subst hs1
            have HF : Shut (R = false) := ⟨by rw [HE.out]; rfl⟩
            clear HE
            go_wp2_with fail
            refine HAT.out.mono ?_
            rintro e W6 ⟨rfl, hb6⟩
            have HG6 := Shut.mk (HG.out.below hb6)
            clear hb6
            go_wp2_with fail
            go_ret
            exact ⟨by rw [HF.out]; rfl, HG6.out.bel⟩
        · have hir : i < rs.length := by rw [nds_len] at hi; exact hi
          have hnk := treeOk_node HOK.out (i := i) hi
          have hqd := fun hd => nodeOk_quota hnk hd
          have hus := usedX_le ⟨nds rs, nx⟩ c
          have HNX : Shut (R = if rs[i].nd.dir = true ∧ 0 < rs[i].nd.quota ∧ rs[i].nd.quota - usedX ⟨nds rs, nx⟩ c < m then false else roomF ⟨nds rs, nx⟩ m (15 - (s + 1)) (s + 1) rs[i].nd.parent) := ⟨by rw [hcl', roomF_some hfn]; dsimp only; rw [nds_getD hir, ← hf]⟩
          dsimp only at hqd
          rw [nds_getD hir] at hqd
          rw [hat] at HAT
          have i0 : (0 : Int) ≤ (i : Int) := by omega
          have i1 : (i : Int) < (n : Int) := by have := HM.out.2; omega
          have i2 : ¬ (i : Int) < 0 := by omega
          clear hcl' hcl hf hfn hat hi hnk
          go_wp2_with fail
          refine HAT.out.mono ?_
          rintro e W6 ⟨rfl, hb6⟩
          have HG6 := Shut.mk (HG.out.below hb6)
          clear hb6 x0 x1 HAT HG
          have x0 := (HG6.out.box.2 0 _ rfl).1
          have x1 := (HG6.out.box.2 1 _ rfl).1
          have hwl : w.heap.size < W6.heap.size := HG6.out.box.1
          obtain ⟨b, off, rfl, lb, hc⟩ := TR.nat (HM.out.1.below HG6.out.bel) (by omega)
          have HC := Shut.mk (hc i hir)
          have e1 := (hc i hir).2.1
          have e3 := (hc i hir).2.2.2.1
          have e5 := (hc i hir).2.2.2.2.2.1
          have HUC := Shut.mk (fun W (hW : Below W6.heap.size W6 W) => HUS.out W (HG6.out.bel.trans (hW.mono HG6.out.bel.size)) c)
          clear hc
          generalize usedX ⟨nds rs, nx⟩ c = u at *
          generalize rs[i] = r at *
          cases hd : r.nd.dir with
          | false =>
            rw [hd] at e3
            have HN2 : Shut (R = roomF ⟨nds rs, nx⟩ m (15 - (s + 1)) (s + 1) r.nd.parent) := ⟨by rw [HNX.out, if_neg (by rw [hd]; simp)]⟩
            clear hd HNX hqd
            go_wp2_with fail
            go_quiet (fail)
            go_wp2_with fail
            go_roundw
            case rel => exact ⟨s + 1, r.nd.parent, rfl, by go_num, by omega, HN2, ⟨HG6.out.below ⟨rfl, rfl, rfl, Nat.le_refl _, fun _ _ => rfl⟩⟩⟩
            case measure => simp [intOf]; omega
          | true =>
            rw [hd] at e3
            have hq := hqd hd
            by_cases hq0 : 0 < r.nd.quota
            · have hq0' : decide ((0 : Int) < r.nd.quota) = true := by simpa using hq0
              have hwq : IntKind.i64.wrap (r.nd.quota - u) = r.nd.quota - u := IntWalk.i64_in _ ⟨by omega, by omega⟩
              have HNX' : Shut (R = if r.nd.quota - u < m then false else roomF ⟨nds rs, nx⟩ m (15 - (s + 1)) (s + 1) r.nd.parent) := ⟨by
                rw [HNX.out]
                by_cases hc : r.nd.quota - u < m
                · rw [if_pos hc, if_pos ⟨hd, hq0, hc⟩]
                · rw [if_neg hc, if_neg (fun q => hc q.2.2)]⟩
              clear hd HNX hqd
              go_wp2_with fail
              go_region_held3 (fun w' => w'.cell? ⟨w.heap.size, 0, none⟩ = some (.slice (some ⟨b, off, none⟩) n cap) ∧ w'.cell? ⟨w.heap.size, 1, none⟩ = some (.int .i64 nx) ∧ w'.cell? ⟨b, off + i * 9 + 3, none⟩ = some (.bool true) ∧ w'.cell? ⟨b, off + i * 9 + 5, none⟩ = some (.int .i64 r.nd.quota))
                (first | go_keep | (refine ⟨?_, ?_, ?_, ?_⟩ <;> first | (rw [hb9.cell (by exact hwl)]; simp [*]; done) | (rw [hb9.cell (by exact lb)]; simp [*]; done)))
                ((go_at_call 44; refine (HUC.out _ (by first | exact Below.refl _ _ | exact Below.drew (Below.refl _ _))).mono ?_; rintro e w9 ⟨rfl, hb9⟩))
              all_goals
                have hb : Below W6.heap.size W6 w9 := by first | exact (Below.drew (Below.refl _ _)).trans hb9 | exact hb9
                have HG9 := Shut.mk (HG6.out.below hb)
                have z0 := (HG9.out.box.2 0 _ rfl).1
                have f1 := (HC.out.below hb lb).2.1
                clear hb hb9
                by_cases hc : r.nd.quota - u < m
                · have hc' : decide (r.nd.quota - u < m) = true := by simpa using hc
                  have HE : Shut (R = false) := ⟨by rw [HNX'.out, if_pos hc]⟩
                  clear HNX'
                  go_wp2_with fail
                  go_ret
                  exact ⟨by rw [HE.out]; rfl, HG9.out.bel⟩
                · have hc' : decide (r.nd.quota - u < m) = false := by simpa using hc
                  have HN2 : Shut (R = roomF ⟨nds rs, nx⟩ m (15 - (s + 1)) (s + 1) r.nd.parent) := ⟨by rw [HNX'.out, if_neg hc]⟩
                  clear HNX'
                  go_wp2_with fail
                  go_roundw
                  case rel => exact ⟨s + 1, r.nd.parent, rfl, by go_num, by omega, HN2, HG9⟩
                  case measure => simp [intOf]; omega
            · have hq0' : decide ((0 : Int) < r.nd.quota) = false := by simpa using hq0
              have HN2 : Shut (R = roomF ⟨nds rs, nx⟩ m (15 - (s + 1)) (s + 1) r.nd.parent) := ⟨by rw [HNX.out, if_neg (fun q => hq0 q.2.1)]⟩
              clear hd HNX hqd
              go_wp2_with fail
              go_quiet (fail)
              go_wp2_with fail
              go_roundw
              case rel => exact ⟨s + 1, r.nd.parent, rfl, by go_num, by omega, HN2, ⟨HG6.out.below ⟨rfl, rfl, rfl, Nat.le_refl _, fun _ _ => rfl⟩⟩⟩
              case measure => simp [intOf]; omega
      · have hm : s = 15 := by omega
        have HE : Shut (R = false) := ⟨by rw [hcl.out, hm]; rfl⟩
        have m1 : ¬ (s : Int) ≤ 14 := by omega
        clear hm hcl
        go_wp2_with fail
        go_ret
        exact ⟨by rw [HE.out]; rfl, HG.out.bel⟩
end Go.Proofs.Ytfceohoegeebjaa
/- LawTre: The walks of the exact laws over trees whose answers are a number, a text or a flag, over what is told of the program's own functions at every argument (written by gen/mklawtree.py). -/
namespace Go.Proofs.Ytfceohoegeebjaa
open Go.RowKit
attribute [local go_sem ↓] Go.wp_at_zero Go.wp_at_succ
attribute [local irreducible] nodeOk treeOk atI findX pathX schemaAtX usedX roomX

/-- Two boxes: what was handed over, and a copy of it. -/
structure BY (w W : World) (a : Option Addr) (n cap : Nat) (nx : Int) (g : Nat) (c : Option Addr) (m cc : Nat) (T : TM) : Prop where
  bx : BX w W a n cap nx
  kp : WCells W g [.slice c m cc, .int .i64 nx]
  cp : TSee W (.agg #[.slice c m cc, .int .i64 nx]) T w.heap.size g
theorem BY.below {w W W' : World} {a c : Option Addr} {n cap g m cc : Nat} {nx : Int} {T : TM} (h : BY w W a n cap nx g c m cc T) (hb : Below W.heap.size W W') : BY w W' a n cap nx g c m cc T := ⟨h.bx.below hb, h.kp.grow hb, h.cp.below hb⟩
set_option maxRecDepth 100000 in
set_option maxHeartbeats 4000000 in
theorem lawTreeOk (h : ∀ (w : World) (v : Value) (T : TM) (lo hi : Nat), TSee w v T lo hi → NFit T → NInt T.nodes → Calls Try.prog 28 #[v] w fun e w' => e = .returned (.bool (treeOk T)) ∧ Below w.heap.size w w') {w : World} {v : Value} {T : TM} (hv : TSee w v T 0 w.heap.size) (lT : NOk T.nodes) (lI : NInt T.nodes) :
    Calls Try.prog 5 #[v] w fun e w' => e = .returned (.bool true) ∧ Below w.heap.size w w' := by
  have h' := hv
  obtain ⟨a, cap, rs, rfl, hr, hm⟩ := hv
  obtain ⟨n, hn⟩ : ∃ n, n = rs.length := ⟨_, rfl⟩
  rw [← hn] at h' ⊢
  obtain ⟨nodes, nx⟩ := T
  dsimp only at h' ⊢
  generalize hT : (⟨nodes, nx⟩ : TM) = T at *
  have HN : Shut (NOk T.nodes ∧ T.next = nx) := ⟨lT, by rw [← hT]⟩
  have FV := Shut.mk h'
  have HH := Shut.mk h
  have HI : Shut (NInt T.nodes) := ⟨lI⟩
  clear h h' hm hr hn hT lT lI
  go_enter Try.func5, Try.ntmps5
  go_upto_region 1 with fail
  refine wp_shade (fun W => BX w W a n cap nx) (BX.new w a n cap nx 40) ?_
  intro W hg
  have HG := Shut.mk hg
  have x0 := (hg.box.2 0 _ rfl).1
  have x1 := (hg.box.2 1 _ rfl).1
  clear hg
  go_wp2_with fail
  refine (szTree_val 1048576 (FV.out.below HG.out.bel) HN.out.1 (by omega) (by omega)).mono ?_
  rintro e w1 ⟨r0, rfl, _, q1, hb⟩
  replace HG := Shut.mk (HG.out.below hb)
  clear hb x0 x1
  by_cases r0n : r0 < 0
  case pos =>
    clear q1
    go_wp2_with fail
    go_ret
    exact ⟨rfl, HG.out.bel⟩
  have hr := q1 (by omega)
  have HF : Shut (NFit T) := ⟨by unfold NFit; omega⟩
  clear q1 hr
  have x0 := (HG.out.box.2 0 _ rfl).1
  have x1 := (HG.out.box.2 1 _ rfl).1
  go_wp2_with fail
  refine (toTree_val (FV.out.below HG.out.bel) HF.out).mono ?_
  rintro e w2 ⟨u1, rfl, hA, hb⟩
  have HA := Shut.mk hA
  replace HG := Shut.mk (HG.out.below hb)
  clear hA hb x0 x1
  have x0 := (HG.out.box.2 0 _ rfl).1
  have x1 := (HG.out.box.2 1 _ rfl).1
  go_wp2_with fail
  refine (specTreeOk HA.out.see HF.out).mono ?_
  rintro e w3 ⟨rfl, hb⟩
  replace HG := Shut.mk (HG.out.below hb)
  clear hb x0 x1 HA
  have x0 := (HG.out.box.2 0 _ rfl).1
  have x1 := (HG.out.box.2 1 _ rfl).1
  go_wp2_with fail
  refine (toTree_val (FV.out.below HG.out.bel) HF.out).mono ?_
  rintro e w4 ⟨u2, rfl, hA, hb⟩
  have hz3 := HG.out.bel.size
  replace HG := Shut.mk (HG.out.below hb)
  obtain ⟨c, cc, ts, rfl, ht, _, _⟩ := id hA
  obtain ⟨m, hm⟩ : ∃ m, m = ts.length := ⟨_, rfl⟩
  rw [← hm, HN.out.2] at hA ⊢
  have HY : Shut (BY w (w4.alloc (.cells #[.slice c m cc, .int .i64 nx] 26)) a n cap nx w4.heap.size c m cc T) := ⟨HG.out.below ((Below.refl _ _).alloc (Nat.le_refl _) _), wcells_new w4 #[.slice c m cc, .int .i64 nx] 26, (hA.see.below ((Below.refl _ _).alloc (Nat.le_refl _) _)).wide hz3 (Nat.le_refl _)⟩
  obtain ⟨g, hg⟩ : ∃ g, g = w4.heap.size := ⟨_, rfl⟩
  rw [← hg] at HY
  clear hA hb ht hm x0 x1
  go_upto_region 7 with fail
  rw [← hg]
  refine wp_shade (fun W => BY w W a n cap nx g c m cc T) HY.out ?_
  clear HY HG hg hz3
  intro W5 hy
  have HY := Shut.mk hy
  have y0 := (hy.kp.2 0 _ rfl).1
  have y1 := (hy.kp.2 1 _ rfl).1
  clear hy
  go_wp2_with fail
  refine (HH.out _ _ T _ _ HY.out.cp HF.out HI.out).mono ?_
  rintro e W6 ⟨rfl, hb⟩
  replace HY := Shut.mk (HY.out.below hb)
  clear hb y0 y1 HH
  have y0 := (HY.out.kp.2 0 _ rfl).1
  have y1 := (HY.out.kp.2 1 _ rfl).1
  have x0 := (HY.out.bx.box.2 0 _ rfl).1
  have x1 := (HY.out.bx.box.2 1 _ rfl).1
  have lw : w.heap.size < W6.heap.size := HY.out.bx.box.1
  have lg : g < W6.heap.size := HY.out.kp.1
  generalize treeOk T = ok at *
  have hoo : (ok != ok) = false := by cases ok <;> rfl
  have HTT := Shut.mk (fun W (hW : Below W6.heap.size W6 W) => toTree_val (FV.out.below (HY.out.bx.bel.trans (hW.mono HY.out.bx.bel.size))) HF.out)
  have HEQ := Shut.mk (fun W (hW : Below W6.heap.size W6 W) u lo hi (hu : TAns W u T lo hi) => eqTree_val (HY.out.below hW).cp hu.see HF.out)
  unfold TrPost at HTT
  go_wp2_with fail
  go_region_held3 (fun w' => w'.cell? ⟨w.heap.size, 0, none⟩ = some (.slice a n cap) ∧ w'.cell? ⟨w.heap.size, 1, none⟩ = some (.int .i64 nx) ∧ w'.cell? ⟨g, 0, none⟩ = some (.slice c m cc) ∧ w'.cell? ⟨g, 1, none⟩ = some (.int .i64 nx))
    (first | go_keep | (refine ⟨?_, ?_, ?_, ?_⟩ <;> first | (rw [hb10.cell (Nat.lt_of_lt_of_le lw hb9.size), hb9.cell (by exact lw)]; simp [*]; done) | (rw [hb10.cell (Nat.lt_of_lt_of_le lg hb9.size), hb9.cell (by exact lg)]; simp [*]; done) | (rw [hb9.cell (by exact lw)]; simp [*]; done) | (rw [hb9.cell (by exact lg)]; simp [*]; done)))
    (first
      | (go_at_call 27; refine (HTT.out _ (by first | exact Below.refl _ _ | exact Below.drew (Below.refl _ _))).mono ?_; rintro e w9 ⟨u9, rfl, hA9, hb9⟩)
      | (go_at_call 22; refine (HEQ.out _ (by first | exact hb9 | exact (Below.drew (Below.refl _ _)).trans hb9) u9 _ _ hA9).mono ?_; rintro e w10 ⟨rfl, hb10⟩))
  all_goals
    have hb : Below W6.heap.size W6 w9 := by first | exact (Below.drew (Below.refl _ _)).trans hb9 | exact hb9
    have HZ := Shut.mk ((HY.out.below hb).below hb10)
    clear hb hb9 hb10 hA9
    go_wp2_with fail
    go_ret
    exact ⟨rfl, HZ.out.bx.bel⟩
set_option maxRecDepth 100000 in
set_option maxHeartbeats 4000000 in
theorem lawPathOf (h : ∀ (w : World) (v : Value) (T : TM) (lo hi : Nat) (k : Int), TSee w v T lo hi → NFit T → NInt T.nodes → (Lit.int .i64 k).wf = true → Calls Try.prog 32 #[v, .int .i64 k] w fun e w' => e = .returned (.string (pathX T k)) ∧ Below w.heap.size w w') {w : World} {v : Value} {T : TM} (hv : TSee w v T 0 w.heap.size) (lT : NOk T.nodes) (lI : NInt T.nodes) {k : Int} (lk : (Lit.int .i64 k).wf = true) :
    Calls Try.prog 7 #[v, .int .i64 k] w fun e w' => e = .returned (.bool true) ∧ Below w.heap.size w w' := by
  have h' := hv
  obtain ⟨a, cap, rs, rfl, hr, hm⟩ := hv
  obtain ⟨n, hn⟩ : ∃ n, n = rs.length := ⟨_, rfl⟩
  rw [← hn] at h' ⊢
  obtain ⟨nodes, nx⟩ := T
  dsimp only at h' ⊢
  generalize hT : (⟨nodes, nx⟩ : TM) = T at *
  have HN : Shut (NOk T.nodes ∧ T.next = nx) := ⟨lT, by rw [← hT]⟩
  have FV := Shut.mk h'
  have HH := Shut.mk h
  have HI : Shut (NInt T.nodes ∧ (Lit.int .i64 k).wf = true) := ⟨lI, lk⟩
  clear h h' hm hr hn hT lT lI lk
  go_enter Try.func7, Try.ntmps7
  go_upto_region 1 with fail
  refine wp_shade (fun W => BX w W a n cap nx) (BX.new w a n cap nx 40) ?_
  intro W hg
  have HG := Shut.mk hg
  have x0 := (hg.box.2 0 _ rfl).1
  have x1 := (hg.box.2 1 _ rfl).1
  clear hg
  go_wp2_with fail
  refine (szTree_val 1048576 (FV.out.below HG.out.bel) HN.out.1 (by omega) (by omega)).mono ?_
  rintro e w1 ⟨r0, rfl, _, q1, hb⟩
  replace HG := Shut.mk (HG.out.below hb)
  clear hb x0 x1
  by_cases r0n : r0 < 0
  case pos =>
    clear q1
    go_wp2_with fail
    go_ret
    exact ⟨rfl, HG.out.bel⟩
  have hr := q1 (by omega)
  have HF : Shut (NFit T) := ⟨by unfold NFit; omega⟩
  clear q1 hr
  have x0 := (HG.out.box.2 0 _ rfl).1
  have x1 := (HG.out.box.2 1 _ rfl).1
  go_wp2_with fail
  refine (toTree_val (FV.out.below HG.out.bel) HF.out).mono ?_
  rintro e w2 ⟨u1, rfl, hA, hb⟩
  have HA := Shut.mk hA
  replace HG := Shut.mk (HG.out.below hb)
  clear hA hb x0 x1
  have x0 := (HG.out.box.2 0 _ rfl).1
  have x1 := (HG.out.box.2 1 _ rfl).1
  go_wp2_with fail
  refine (specPathOf k HA.out.see HF.out).mono ?_
  rintro e w3 ⟨rfl, hb⟩
  replace HG := Shut.mk (HG.out.below hb)
  clear hb x0 x1 HA
  have x0 := (HG.out.box.2 0 _ rfl).1
  have x1 := (HG.out.box.2 1 _ rfl).1
  go_wp2_with fail
  refine (toTree_val (FV.out.below HG.out.bel) HF.out).mono ?_
  rintro e w4 ⟨u2, rfl, hA, hb⟩
  have hz3 := HG.out.bel.size
  replace HG := Shut.mk (HG.out.below hb)
  obtain ⟨c, cc, ts, rfl, ht, _, _⟩ := id hA
  obtain ⟨m, hm⟩ : ∃ m, m = ts.length := ⟨_, rfl⟩
  rw [← hm, HN.out.2] at hA ⊢
  have HY : Shut (BY w (w4.alloc (.cells #[.slice c m cc, .int .i64 nx] 26)) a n cap nx w4.heap.size c m cc T) := ⟨HG.out.below ((Below.refl _ _).alloc (Nat.le_refl _) _), wcells_new w4 #[.slice c m cc, .int .i64 nx] 26, (hA.see.below ((Below.refl _ _).alloc (Nat.le_refl _) _)).wide hz3 (Nat.le_refl _)⟩
  obtain ⟨g, hg⟩ : ∃ g, g = w4.heap.size := ⟨_, rfl⟩
  rw [← hg] at HY
  clear hA hb ht hm x0 x1
  go_upto_region 7 with fail
  rw [← hg]
  refine wp_shade (fun W => BY w W a n cap nx g c m cc T) HY.out ?_
  clear HY HG hg hz3
  intro W5 hy
  have HY := Shut.mk hy
  have y0 := (hy.kp.2 0 _ rfl).1
  have y1 := (hy.kp.2 1 _ rfl).1
  clear hy
  go_wp2_with fail
  refine (HH.out _ _ T _ _ k HY.out.cp HF.out HI.out.1 HI.out.2).mono ?_
  rintro e W6 ⟨rfl, hb⟩
  replace HY := Shut.mk (HY.out.below hb)
  clear hb y0 y1 HH
  have y0 := (HY.out.kp.2 0 _ rfl).1
  have y1 := (HY.out.kp.2 1 _ rfl).1
  have x0 := (HY.out.bx.box.2 0 _ rfl).1
  have x1 := (HY.out.bx.box.2 1 _ rfl).1
  have lw : w.heap.size < W6.heap.size := HY.out.bx.box.1
  have lg : g < W6.heap.size := HY.out.kp.1
  generalize pathX T k = ok at *
  have hoo : (ok.toList != ok.toList) = false := by simp
  have HTT := Shut.mk (fun W (hW : Below W6.heap.size W6 W) => toTree_val (FV.out.below (HY.out.bx.bel.trans (hW.mono HY.out.bx.bel.size))) HF.out)
  have HEQ := Shut.mk (fun W (hW : Below W6.heap.size W6 W) u lo hi (hu : TAns W u T lo hi) => eqTree_val (HY.out.below hW).cp hu.see HF.out)
  unfold TrPost at HTT
  go_wp2_with fail
  go_region_held3 (fun w' => w'.cell? ⟨w.heap.size, 0, none⟩ = some (.slice a n cap) ∧ w'.cell? ⟨w.heap.size, 1, none⟩ = some (.int .i64 nx) ∧ w'.cell? ⟨g, 0, none⟩ = some (.slice c m cc) ∧ w'.cell? ⟨g, 1, none⟩ = some (.int .i64 nx))
    (first | go_keep | (refine ⟨?_, ?_, ?_, ?_⟩ <;> first | (rw [hb10.cell (Nat.lt_of_lt_of_le lw hb9.size), hb9.cell (by exact lw)]; simp [*]; done) | (rw [hb10.cell (Nat.lt_of_lt_of_le lg hb9.size), hb9.cell (by exact lg)]; simp [*]; done) | (rw [hb9.cell (by exact lw)]; simp [*]; done) | (rw [hb9.cell (by exact lg)]; simp [*]; done)))
    (first
      | (go_at_call 27; refine (HTT.out _ (by first | exact Below.refl _ _ | exact Below.drew (Below.refl _ _))).mono ?_; rintro e w9 ⟨u9, rfl, hA9, hb9⟩)
      | (go_at_call 22; refine (HEQ.out _ (by first | exact hb9 | exact (Below.drew (Below.refl _ _)).trans hb9) u9 _ _ hA9).mono ?_; rintro e w10 ⟨rfl, hb10⟩))
  all_goals
    have hb : Below W6.heap.size W6 w9 := by first | exact (Below.drew (Below.refl _ _)).trans hb9 | exact hb9
    have HZ := Shut.mk ((HY.out.below hb).below hb10)
    clear hb hb9 hb10 hA9
    go_wp2_with fail
    go_ret
    exact ⟨rfl, HZ.out.bx.bel⟩
set_option maxRecDepth 100000 in
set_option maxHeartbeats 4000000 in
theorem lawSchemaAt (h : ∀ (w : World) (v : Value) (T : TM) (lo hi : Nat) (k : Int), TSee w v T lo hi → NFit T → NInt T.nodes → (Lit.int .i64 k).wf = true → Calls Try.prog 16 #[v, .int .i64 k] w fun e w' => e = .returned (.int .i64 (schemaAtX T k)) ∧ Below w.heap.size w w') {w : World} {v : Value} {T : TM} (hv : TSee w v T 0 w.heap.size) (lT : NOk T.nodes) (lI : NInt T.nodes) {k : Int} (lk : (Lit.int .i64 k).wf = true) :
    Calls Try.prog 10 #[v, .int .i64 k] w fun e w' => e = .returned (.bool true) ∧ Below w.heap.size w w' := by
  have h' := hv
  obtain ⟨a, cap, rs, rfl, hr, hm⟩ := hv
  obtain ⟨n, hn⟩ : ∃ n, n = rs.length := ⟨_, rfl⟩
  rw [← hn] at h' ⊢
  obtain ⟨nodes, nx⟩ := T
  dsimp only at h' ⊢
  generalize hT : (⟨nodes, nx⟩ : TM) = T at *
  have HN : Shut (NOk T.nodes ∧ T.next = nx) := ⟨lT, by rw [← hT]⟩
  have FV := Shut.mk h'
  have HH := Shut.mk h
  have HI : Shut (NInt T.nodes ∧ (Lit.int .i64 k).wf = true) := ⟨lI, lk⟩
  clear h h' hm hr hn hT lT lI lk
  go_enter Try.func10, Try.ntmps10
  go_upto_region 1 with fail
  refine wp_shade (fun W => BX w W a n cap nx) (BX.new w a n cap nx 40) ?_
  intro W hg
  have HG := Shut.mk hg
  have x0 := (hg.box.2 0 _ rfl).1
  have x1 := (hg.box.2 1 _ rfl).1
  clear hg
  go_wp2_with fail
  refine (szTree_val 1048576 (FV.out.below HG.out.bel) HN.out.1 (by omega) (by omega)).mono ?_
  rintro e w1 ⟨r0, rfl, _, q1, hb⟩
  replace HG := Shut.mk (HG.out.below hb)
  clear hb x0 x1
  by_cases r0n : r0 < 0
  case pos =>
    clear q1
    go_wp2_with fail
    go_ret
    exact ⟨rfl, HG.out.bel⟩
  have hr := q1 (by omega)
  have HF : Shut (NFit T) := ⟨by unfold NFit; omega⟩
  clear q1 hr
  have x0 := (HG.out.box.2 0 _ rfl).1
  have x1 := (HG.out.box.2 1 _ rfl).1
  go_wp2_with fail
  refine (toTree_val (FV.out.below HG.out.bel) HF.out).mono ?_
  rintro e w2 ⟨u1, rfl, hA, hb⟩
  have HA := Shut.mk hA
  replace HG := Shut.mk (HG.out.below hb)
  clear hA hb x0 x1
  have x0 := (HG.out.box.2 0 _ rfl).1
  have x1 := (HG.out.box.2 1 _ rfl).1
  go_wp2_with fail
  refine (specSchemaAt k HA.out.see HF.out).mono ?_
  rintro e w3 ⟨rfl, hb⟩
  replace HG := Shut.mk (HG.out.below hb)
  clear hb x0 x1 HA
  have x0 := (HG.out.box.2 0 _ rfl).1
  have x1 := (HG.out.box.2 1 _ rfl).1
  go_wp2_with fail
  refine (toTree_val (FV.out.below HG.out.bel) HF.out).mono ?_
  rintro e w4 ⟨u2, rfl, hA, hb⟩
  have hz3 := HG.out.bel.size
  replace HG := Shut.mk (HG.out.below hb)
  obtain ⟨c, cc, ts, rfl, ht, _, _⟩ := id hA
  obtain ⟨m, hm⟩ : ∃ m, m = ts.length := ⟨_, rfl⟩
  rw [← hm, HN.out.2] at hA ⊢
  have HY : Shut (BY w (w4.alloc (.cells #[.slice c m cc, .int .i64 nx] 26)) a n cap nx w4.heap.size c m cc T) := ⟨HG.out.below ((Below.refl _ _).alloc (Nat.le_refl _) _), wcells_new w4 #[.slice c m cc, .int .i64 nx] 26, (hA.see.below ((Below.refl _ _).alloc (Nat.le_refl _) _)).wide hz3 (Nat.le_refl _)⟩
  obtain ⟨g, hg⟩ : ∃ g, g = w4.heap.size := ⟨_, rfl⟩
  rw [← hg] at HY
  clear hA hb ht hm x0 x1
  go_upto_region 7 with fail
  rw [← hg]
  refine wp_shade (fun W => BY w W a n cap nx g c m cc T) HY.out ?_
  clear HY HG hg hz3
  intro W5 hy
  have HY := Shut.mk hy
  have y0 := (hy.kp.2 0 _ rfl).1
  have y1 := (hy.kp.2 1 _ rfl).1
  clear hy
  go_wp2_with fail
  refine (HH.out _ _ T _ _ k HY.out.cp HF.out HI.out.1 HI.out.2).mono ?_
  rintro e W6 ⟨rfl, hb⟩
  replace HY := Shut.mk (HY.out.below hb)
  clear hb y0 y1 HH
  have y0 := (HY.out.kp.2 0 _ rfl).1
  have y1 := (HY.out.kp.2 1 _ rfl).1
  have x0 := (HY.out.bx.box.2 0 _ rfl).1
  have x1 := (HY.out.bx.box.2 1 _ rfl).1
  have lw : w.heap.size < W6.heap.size := HY.out.bx.box.1
  have lg : g < W6.heap.size := HY.out.kp.1
  generalize schemaAtX T k = ok at *
  have hoo : (ok != ok) = false := by simp
  have HTT := Shut.mk (fun W (hW : Below W6.heap.size W6 W) => toTree_val (FV.out.below (HY.out.bx.bel.trans (hW.mono HY.out.bx.bel.size))) HF.out)
  have HEQ := Shut.mk (fun W (hW : Below W6.heap.size W6 W) u lo hi (hu : TAns W u T lo hi) => eqTree_val (HY.out.below hW).cp hu.see HF.out)
  unfold TrPost at HTT
  go_wp2_with fail
  go_region_held3 (fun w' => w'.cell? ⟨w.heap.size, 0, none⟩ = some (.slice a n cap) ∧ w'.cell? ⟨w.heap.size, 1, none⟩ = some (.int .i64 nx) ∧ w'.cell? ⟨g, 0, none⟩ = some (.slice c m cc) ∧ w'.cell? ⟨g, 1, none⟩ = some (.int .i64 nx))
    (first | go_keep | (refine ⟨?_, ?_, ?_, ?_⟩ <;> first | (rw [hb10.cell (Nat.lt_of_lt_of_le lw hb9.size), hb9.cell (by exact lw)]; simp [*]; done) | (rw [hb10.cell (Nat.lt_of_lt_of_le lg hb9.size), hb9.cell (by exact lg)]; simp [*]; done) | (rw [hb9.cell (by exact lw)]; simp [*]; done) | (rw [hb9.cell (by exact lg)]; simp [*]; done)))
    (first
      | (go_at_call 27; refine (HTT.out _ (by first | exact Below.refl _ _ | exact Below.drew (Below.refl _ _))).mono ?_; rintro e w9 ⟨u9, rfl, hA9, hb9⟩)
      | (go_at_call 22; refine (HEQ.out _ (by first | exact hb9 | exact (Below.drew (Below.refl _ _)).trans hb9) u9 _ _ hA9).mono ?_; rintro e w10 ⟨rfl, hb10⟩))
  all_goals
    have hb : Below W6.heap.size W6 w9 := by first | exact (Below.drew (Below.refl _ _)).trans hb9 | exact hb9
    have HZ := Shut.mk ((HY.out.below hb).below hb10)
    clear hb hb9 hb10 hA9
    go_wp2_with fail
    go_ret
    exact ⟨rfl, HZ.out.bx.bel⟩
set_option maxRecDepth 100000 in
set_option maxHeartbeats 4000000 in
theorem lawUsedBelow (h : ∀ (w : World) (v : Value) (T : TM) (lo hi : Nat) (k : Int), TSee w v T lo hi → NFit T → NInt T.nodes → (Lit.int .i64 k).wf = true → Calls Try.prog 15 #[v, .int .i64 k] w fun e w' => e = .returned (.int .i64 (usedX T k)) ∧ Below w.heap.size w w') {w : World} {v : Value} {T : TM} (hv : TSee w v T 0 w.heap.size) (lT : NOk T.nodes) (lI : NInt T.nodes) {k : Int} (lk : (Lit.int .i64 k).wf = true) :
    Calls Try.prog 11 #[v, .int .i64 k] w fun e w' => e = .returned (.bool true) ∧ Below w.heap.size w w' := by
  have h' := hv
  obtain ⟨a, cap, rs, rfl, hr, hm⟩ := hv
  obtain ⟨n, hn⟩ : ∃ n, n = rs.length := ⟨_, rfl⟩
  rw [← hn] at h' ⊢
  obtain ⟨nodes, nx⟩ := T
  dsimp only at h' ⊢
  generalize hT : (⟨nodes, nx⟩ : TM) = T at *
  have HN : Shut (NOk T.nodes ∧ T.next = nx) := ⟨lT, by rw [← hT]⟩
  have FV := Shut.mk h'
  have HH := Shut.mk h
  have HI : Shut (NInt T.nodes ∧ (Lit.int .i64 k).wf = true) := ⟨lI, lk⟩
  clear h h' hm hr hn hT lT lI lk
  go_enter Try.func11, Try.ntmps11
  go_upto_region 1 with fail
  refine wp_shade (fun W => BX w W a n cap nx) (BX.new w a n cap nx 40) ?_
  intro W hg
  have HG := Shut.mk hg
  have x0 := (hg.box.2 0 _ rfl).1
  have x1 := (hg.box.2 1 _ rfl).1
  clear hg
  go_wp2_with fail
  refine (szTree_val 1048576 (FV.out.below HG.out.bel) HN.out.1 (by omega) (by omega)).mono ?_
  rintro e w1 ⟨r0, rfl, _, q1, hb⟩
  replace HG := Shut.mk (HG.out.below hb)
  clear hb x0 x1
  by_cases r0n : r0 < 0
  case pos =>
    clear q1
    go_wp2_with fail
    go_ret
    exact ⟨rfl, HG.out.bel⟩
  have hr := q1 (by omega)
  have HF : Shut (NFit T) := ⟨by unfold NFit; omega⟩
  clear q1 hr
  have x0 := (HG.out.box.2 0 _ rfl).1
  have x1 := (HG.out.box.2 1 _ rfl).1
  go_wp2_with fail
  refine (toTree_val (FV.out.below HG.out.bel) HF.out).mono ?_
  rintro e w2 ⟨u1, rfl, hA, hb⟩
  have HA := Shut.mk hA
  replace HG := Shut.mk (HG.out.below hb)
  clear hA hb x0 x1
  have x0 := (HG.out.box.2 0 _ rfl).1
  have x1 := (HG.out.box.2 1 _ rfl).1
  go_wp2_with fail
  refine (specUsedBelow k HA.out.see HF.out).mono ?_
  rintro e w3 ⟨rfl, hb⟩
  replace HG := Shut.mk (HG.out.below hb)
  clear hb x0 x1 HA
  have x0 := (HG.out.box.2 0 _ rfl).1
  have x1 := (HG.out.box.2 1 _ rfl).1
  go_wp2_with fail
  refine (toTree_val (FV.out.below HG.out.bel) HF.out).mono ?_
  rintro e w4 ⟨u2, rfl, hA, hb⟩
  have hz3 := HG.out.bel.size
  replace HG := Shut.mk (HG.out.below hb)
  obtain ⟨c, cc, ts, rfl, ht, _, _⟩ := id hA
  obtain ⟨m, hm⟩ : ∃ m, m = ts.length := ⟨_, rfl⟩
  rw [← hm, HN.out.2] at hA ⊢
  have HY : Shut (BY w (w4.alloc (.cells #[.slice c m cc, .int .i64 nx] 26)) a n cap nx w4.heap.size c m cc T) := ⟨HG.out.below ((Below.refl _ _).alloc (Nat.le_refl _) _), wcells_new w4 #[.slice c m cc, .int .i64 nx] 26, (hA.see.below ((Below.refl _ _).alloc (Nat.le_refl _) _)).wide hz3 (Nat.le_refl _)⟩
  obtain ⟨g, hg⟩ : ∃ g, g = w4.heap.size := ⟨_, rfl⟩
  rw [← hg] at HY
  clear hA hb ht hm x0 x1
  go_upto_region 7 with fail
  rw [← hg]
  refine wp_shade (fun W => BY w W a n cap nx g c m cc T) HY.out ?_
  clear HY HG hg hz3
  intro W5 hy
  have HY := Shut.mk hy
  have y0 := (hy.kp.2 0 _ rfl).1
  have y1 := (hy.kp.2 1 _ rfl).1
  clear hy
  go_wp2_with fail
  refine (HH.out _ _ T _ _ k HY.out.cp HF.out HI.out.1 HI.out.2).mono ?_
  rintro e W6 ⟨rfl, hb⟩
  replace HY := Shut.mk (HY.out.below hb)
  clear hb y0 y1 HH
  have y0 := (HY.out.kp.2 0 _ rfl).1
  have y1 := (HY.out.kp.2 1 _ rfl).1
  have x0 := (HY.out.bx.box.2 0 _ rfl).1
  have x1 := (HY.out.bx.box.2 1 _ rfl).1
  have lw : w.heap.size < W6.heap.size := HY.out.bx.box.1
  have lg : g < W6.heap.size := HY.out.kp.1
  generalize usedX T k = ok at *
  have hoo : (ok != ok) = false := by simp
  have HTT := Shut.mk (fun W (hW : Below W6.heap.size W6 W) => toTree_val (FV.out.below (HY.out.bx.bel.trans (hW.mono HY.out.bx.bel.size))) HF.out)
  have HEQ := Shut.mk (fun W (hW : Below W6.heap.size W6 W) u lo hi (hu : TAns W u T lo hi) => eqTree_val (HY.out.below hW).cp hu.see HF.out)
  unfold TrPost at HTT
  go_wp2_with fail
  go_region_held3 (fun w' => w'.cell? ⟨w.heap.size, 0, none⟩ = some (.slice a n cap) ∧ w'.cell? ⟨w.heap.size, 1, none⟩ = some (.int .i64 nx) ∧ w'.cell? ⟨g, 0, none⟩ = some (.slice c m cc) ∧ w'.cell? ⟨g, 1, none⟩ = some (.int .i64 nx))
    (first | go_keep | (refine ⟨?_, ?_, ?_, ?_⟩ <;> first | (rw [hb10.cell (Nat.lt_of_lt_of_le lw hb9.size), hb9.cell (by exact lw)]; simp [*]; done) | (rw [hb10.cell (Nat.lt_of_lt_of_le lg hb9.size), hb9.cell (by exact lg)]; simp [*]; done) | (rw [hb9.cell (by exact lw)]; simp [*]; done) | (rw [hb9.cell (by exact lg)]; simp [*]; done)))
    (first
      | (go_at_call 27; refine (HTT.out _ (by first | exact Below.refl _ _ | exact Below.drew (Below.refl _ _))).mono ?_; rintro e w9 ⟨u9, rfl, hA9, hb9⟩)
      | (go_at_call 22; refine (HEQ.out _ (by first | exact hb9 | exact (Below.drew (Below.refl _ _)).trans hb9) u9 _ _ hA9).mono ?_; rintro e w10 ⟨rfl, hb10⟩))
  all_goals
    have hb : Below W6.heap.size W6 w9 := by first | exact (Below.drew (Below.refl _ _)).trans hb9 | exact hb9
    have HZ := Shut.mk ((HY.out.below hb).below hb10)
    clear hb hb9 hb10 hA9
    go_wp2_with fail
    go_ret
    exact ⟨rfl, HZ.out.bx.bel⟩
set_option maxRecDepth 100000 in
set_option maxHeartbeats 4000000 in
theorem lawRoomFor (h : ∀ (w : World) (v : Value) (T : TM) (lo hi : Nat) (k k2 : Int), TSee w v T lo hi → NFit T → NInt T.nodes → (Lit.int .i64 k).wf = true → Calls Try.prog 18 #[v, .int .i64 k, .int .i64 k2] w fun e w' => e = .returned (.bool (roomX T k k2)) ∧ Below w.heap.size w w') {w : World} {v : Value} {T : TM} (hv : TSee w v T 0 w.heap.size) (lT : NOk T.nodes) (lI : NInt T.nodes) {k k2 : Int} (lk : (Lit.int .i64 k).wf = true) :
    Calls Try.prog 12 #[v, .int .i64 k, .int .i64 k2] w fun e w' => e = .returned (.bool true) ∧ Below w.heap.size w w' := by
  have h' := hv
  obtain ⟨a, cap, rs, rfl, hr, hm⟩ := hv
  obtain ⟨n, hn⟩ : ∃ n, n = rs.length := ⟨_, rfl⟩
  rw [← hn] at h' ⊢
  obtain ⟨nodes, nx⟩ := T
  dsimp only at h' ⊢
  generalize hT : (⟨nodes, nx⟩ : TM) = T at *
  have HN : Shut (NOk T.nodes ∧ T.next = nx) := ⟨lT, by rw [← hT]⟩
  have FV := Shut.mk h'
  have HH := Shut.mk h
  have HI : Shut (NInt T.nodes ∧ (Lit.int .i64 k).wf = true) := ⟨lI, lk⟩
  clear h h' hm hr hn hT lT lI lk
  go_enter Try.func12, Try.ntmps12
  go_upto_region 1 with fail
  refine wp_shade (fun W => BX w W a n cap nx) (BX.new w a n cap nx 40) ?_
  intro W hg
  have HG := Shut.mk hg
  have x0 := (hg.box.2 0 _ rfl).1
  have x1 := (hg.box.2 1 _ rfl).1
  clear hg
  go_wp2_with fail
  refine (szTree_val 1048576 (FV.out.below HG.out.bel) HN.out.1 (by omega) (by omega)).mono ?_
  rintro e w1 ⟨r0, rfl, _, q1, hb⟩
  replace HG := Shut.mk (HG.out.below hb)
  clear hb x0 x1
  by_cases r0n : r0 < 0
  case pos =>
    clear q1
    go_wp2_with fail
    go_ret
    exact ⟨rfl, HG.out.bel⟩
  have hr := q1 (by omega)
  have HF : Shut (NFit T) := ⟨by unfold NFit; omega⟩
  clear q1 hr
  have x0 := (HG.out.box.2 0 _ rfl).1
  have x1 := (HG.out.box.2 1 _ rfl).1
  go_wp2_with fail
  refine (toTree_val (FV.out.below HG.out.bel) HF.out).mono ?_
  rintro e w2 ⟨u1, rfl, hA, hb⟩
  have HA := Shut.mk hA
  replace HG := Shut.mk (HG.out.below hb)
  clear hA hb x0 x1
  have x0 := (HG.out.box.2 0 _ rfl).1
  have x1 := (HG.out.box.2 1 _ rfl).1
  go_wp2_with fail
  refine (specRoomFor k k2 HA.out.see HF.out).mono ?_
  rintro e w3 ⟨rfl, hb⟩
  replace HG := Shut.mk (HG.out.below hb)
  clear hb x0 x1 HA
  have x0 := (HG.out.box.2 0 _ rfl).1
  have x1 := (HG.out.box.2 1 _ rfl).1
  go_wp2_with fail
  refine (toTree_val (FV.out.below HG.out.bel) HF.out).mono ?_
  rintro e w4 ⟨u2, rfl, hA, hb⟩
  have hz3 := HG.out.bel.size
  replace HG := Shut.mk (HG.out.below hb)
  obtain ⟨c, cc, ts, rfl, ht, _, _⟩ := id hA
  obtain ⟨m, hm⟩ : ∃ m, m = ts.length := ⟨_, rfl⟩
  rw [← hm, HN.out.2] at hA ⊢
  have HY : Shut (BY w (w4.alloc (.cells #[.slice c m cc, .int .i64 nx] 26)) a n cap nx w4.heap.size c m cc T) := ⟨HG.out.below ((Below.refl _ _).alloc (Nat.le_refl _) _), wcells_new w4 #[.slice c m cc, .int .i64 nx] 26, (hA.see.below ((Below.refl _ _).alloc (Nat.le_refl _) _)).wide hz3 (Nat.le_refl _)⟩
  obtain ⟨g, hg⟩ : ∃ g, g = w4.heap.size := ⟨_, rfl⟩
  rw [← hg] at HY
  clear hA hb ht hm x0 x1
  go_upto_region 7 with fail
  rw [← hg]
  refine wp_shade (fun W => BY w W a n cap nx g c m cc T) HY.out ?_
  clear HY HG hg hz3
  intro W5 hy
  have HY := Shut.mk hy
  have y0 := (hy.kp.2 0 _ rfl).1
  have y1 := (hy.kp.2 1 _ rfl).1
  clear hy
  go_wp2_with fail
  refine (HH.out _ _ T _ _ k k2 HY.out.cp HF.out HI.out.1 HI.out.2).mono ?_
  rintro e W6 ⟨rfl, hb⟩
  replace HY := Shut.mk (HY.out.below hb)
  clear hb y0 y1 HH
  have y0 := (HY.out.kp.2 0 _ rfl).1
  have y1 := (HY.out.kp.2 1 _ rfl).1
  have x0 := (HY.out.bx.box.2 0 _ rfl).1
  have x1 := (HY.out.bx.box.2 1 _ rfl).1
  have lw : w.heap.size < W6.heap.size := HY.out.bx.box.1
  have lg : g < W6.heap.size := HY.out.kp.1
  generalize roomX T k k2 = ok at *
  have hoo : (ok != ok) = false := by cases ok <;> rfl
  have HTT := Shut.mk (fun W (hW : Below W6.heap.size W6 W) => toTree_val (FV.out.below (HY.out.bx.bel.trans (hW.mono HY.out.bx.bel.size))) HF.out)
  have HEQ := Shut.mk (fun W (hW : Below W6.heap.size W6 W) u lo hi (hu : TAns W u T lo hi) => eqTree_val (HY.out.below hW).cp hu.see HF.out)
  unfold TrPost at HTT
  go_wp2_with fail
  go_region_held3 (fun w' => w'.cell? ⟨w.heap.size, 0, none⟩ = some (.slice a n cap) ∧ w'.cell? ⟨w.heap.size, 1, none⟩ = some (.int .i64 nx) ∧ w'.cell? ⟨g, 0, none⟩ = some (.slice c m cc) ∧ w'.cell? ⟨g, 1, none⟩ = some (.int .i64 nx))
    (first | go_keep | (refine ⟨?_, ?_, ?_, ?_⟩ <;> first | (rw [hb10.cell (Nat.lt_of_lt_of_le lw hb9.size), hb9.cell (by exact lw)]; simp [*]; done) | (rw [hb10.cell (Nat.lt_of_lt_of_le lg hb9.size), hb9.cell (by exact lg)]; simp [*]; done) | (rw [hb9.cell (by exact lw)]; simp [*]; done) | (rw [hb9.cell (by exact lg)]; simp [*]; done)))
    (first
      | (go_at_call 27; refine (HTT.out _ (by first | exact Below.refl _ _ | exact Below.drew (Below.refl _ _))).mono ?_; rintro e w9 ⟨u9, rfl, hA9, hb9⟩)
      | (go_at_call 22; refine (HEQ.out _ (by first | exact hb9 | exact (Below.drew (Below.refl _ _)).trans hb9) u9 _ _ hA9).mono ?_; rintro e w10 ⟨rfl, hb10⟩))
  all_goals
    have hb : Below W6.heap.size W6 w9 := by first | exact (Below.drew (Below.refl _ _)).trans hb9 | exact hb9
    have HZ := Shut.mk ((HY.out.below hb).below hb10)
    clear hb hb9 hb10 hA9
    go_wp2_with fail
    go_ret
    exact ⟨rfl, HZ.out.bx.bel⟩
end Go.Proofs.Ytfceohoegeebjaa
/- LawTrn: The walk of the exact law over TreeNew, over what is told of the program's own function. -/
namespace Go.Proofs.Ytfceohoegeebjaa
open Go.RowKit
attribute [local go_sem ↓] Go.wp_at_zero Go.wp_at_succ

/-- A tree that was answered, in a box of its own. -/
structure BZ (W : World) (g : Nat) (c : Option Addr) (m cc : Nat) (nx : Int) (T : TM) (lo : Nat) : Prop where
  kp : WCells W g [.slice c m cc, .int .i64 nx]
  cp : TAns W (.agg #[.slice c m cc, .int .i64 nx]) T lo g
theorem BZ.below {W W' : World} {c : Option Addr} {g m cc lo : Nat} {nx : Int} {T : TM} (h : BZ W g c m cc nx T lo) (hb : Below W.heap.size W W') : BZ W' g c m cc nx T lo := ⟨h.kp.grow hb, h.cp.below hb⟩
theorem BZ.turned {W W' : World} {c : Option Addr} {g m cc lo lo' hi' : Nat} {nx : Int} {T : TM} (h : BZ W g c m cc nx T lo) (t : Turned W W' lo' hi') (hd : g < lo') : BZ W' g c m cc nx T lo := ⟨h.kp.turned t (.inl hd), h.cp.turned t (.inl (Nat.le_of_lt hd))⟩
theorem BZ.new {W : World} {c : Option Addr} {m cc lo : Nat} {nx : Int} {T : TM} (h : TAns W (.agg #[.slice c m cc, .int .i64 nx]) T lo W.heap.size) (t : TypeId) : BZ (W.alloc (.cells #[.slice c m cc, .int .i64 nx] t)) W.heap.size c m cc nx T lo := ⟨wcells_new W #[.slice c m cc, .int .i64 nx] t, h.below ((Below.refl _ _).alloc (Nat.le_refl _) _)⟩
theorem tans_form {W : World} {u : Value} {T : TM} {lo hi : Nat} (h : TAns W u T lo hi) : ∃ c m cc, u = .agg #[.slice c m cc, .int .i64 T.next] := by
  obtain ⟨c, cc, ts, rfl, _⟩ := h
  exact ⟨c, _, cc, rfl⟩
theorem newX_fit : NFit newX := by unfold NFit; decide
attribute [local irreducible] newX markK
set_option maxRecDepth 100000 in
set_option maxHeartbeats 4000000 in
theorem lawTreeNew (h : ∀ (w : World), Calls Try.prog 21 #[] w fun e w' => TrPost newX w e w') (w : World) :
    Calls Try.prog 4 #[] w fun e w' => e = .returned (.bool true) ∧ Below w.heap.size w w' := by
  have HH := Shut.mk h
  have HS := Shut.mk specTreeNew
  have HF := Shut.mk newX_fit
  generalize newX = T at HH HS HF
  clear h
  unfold TrPost at HH HS
  obtain ⟨nx, hnx⟩ : ∃ nx, nx = T.next := ⟨_, rfl⟩
  have HN := Shut.mk hnx
  clear hnx
  go_enter Try.func4, Try.ntmps4
  go_wp2_with fail
  refine (HS.out _).mono ?_
  rintro e w1 ⟨u1, rfl, hA, hb⟩
  obtain ⟨c1, m1, d1, rfl⟩ := tans_form hA
  rw [← HN.out] at hA ⊢
  have HY : Shut (BZ (w1.alloc (.cells #[.slice c1 m1 d1, .int .i64 nx] 26)) w1.heap.size c1 m1 d1 nx T w.heap.size ∧ Below w.heap.size w (w1.alloc (.cells #[.slice c1 m1 d1, .int .i64 nx] 26))) := ⟨BZ.new hA _, hb.alloc hb.size _⟩
  obtain ⟨g1, hg1⟩ : ∃ g, g = w1.heap.size := ⟨_, rfl⟩
  rw [← hg1] at HY
  clear hA hb
  go_upto_region 2 with fail
  rw [← hg1]
  refine wp_shade (fun W => BZ W g1 c1 m1 d1 nx T w.heap.size ∧ Below w.heap.size w W) HY.out ?_
  clear HY hg1
  rintro W1 ⟨hy, hb⟩
  have Y1 := Shut.mk hy
  have HB := Shut.mk hb
  clear hy hb
  go_wp2_with fail
  refine (HH.out _).mono ?_
  rintro e w2 ⟨u2, rfl, hA, hb⟩
  obtain ⟨c2, m2, d2, rfl⟩ := tans_form hA
  rw [← HN.out] at hA ⊢
  have l1 : g1 < W1.heap.size := Y1.out.kp.1
  have l2 : w.heap.size ≤ W1.heap.size := HB.out.size
  have l3 : W1.heap.size ≤ w2.heap.size := hb.size
  obtain ⟨lo, hlo⟩ : ∃ lo, lo = W1.heap.size := ⟨_, rfl⟩
  rw [← hlo] at hA
  have HA : Shut (BZ (w2.alloc (.cells #[.slice c2 m2 d2, .int .i64 nx] 26)) w2.heap.size c2 m2 d2 nx T lo ∧ BZ (w2.alloc (.cells #[.slice c2 m2 d2, .int .i64 nx] 26)) g1 c1 m1 d1 nx T w.heap.size ∧ Below w.heap.size w (w2.alloc (.cells #[.slice c2 m2 d2, .int .i64 nx] 26))) :=
    ⟨BZ.new hA _, (Y1.out.below hb).below ((Below.refl _ _).alloc (Nat.le_refl _) _), (HB.out.trans (hb.mono HB.out.size)).alloc (by omega) _⟩
  obtain ⟨g2, hg2⟩ : ∃ g, g = w2.heap.size := ⟨_, rfl⟩
  rw [← hg2] at HA
  have l4 : g1 < lo := by omega
  have l5 : w.heap.size ≤ lo := by omega
  have l6 : lo ≤ g2 := by omega
  clear hA hb Y1 HB l1 l2 l3 hlo
  go_upto_region 3 with fail
  rw [← hg2]
  refine wp_shade (fun W => BZ W g2 c2 m2 d2 nx T lo ∧ BZ W g1 c1 m1 d1 nx T w.heap.size ∧ Below w.heap.size w W) HA.out ?_
  clear HA hg2
  rintro W2 ⟨hy, hy1, hb⟩
  have Y2 := Shut.mk hy
  have Y1 := Shut.mk hy1
  have HB := Shut.mk hb
  clear hy hy1 hb
  have x0 := (Y1.out.kp.2 0 _ rfl).1
  have x1 := (Y1.out.kp.2 1 _ rfl).1
  have y0 := (Y2.out.kp.2 0 _ rfl).1
  have y1 := (Y2.out.kp.2 1 _ rfl).1
  go_wp2_with fail
  refine (eqTree_val Y2.out.cp.see Y1.out.cp.see HF.out).mono ?_
  rintro e W3 ⟨rfl, hb⟩
  replace Y1 := Shut.mk (Y1.out.below hb)
  replace Y2 := Shut.mk (Y2.out.below hb)
  replace HB := Shut.mk (HB.out.trans (hb.mono HB.out.size))
  clear hb x0 x1 y0 y1
  have y0 := (Y2.out.kp.2 0 _ rfl).1
  have y1 := (Y2.out.kp.2 1 _ rfl).1
  go_wp2_with fail
  refine (markTree_val 1 Y2.out.cp HF.out (by omega) (by omega)).mono ?_
  rintro e W4 ⟨rfl, hH, ht⟩
  have l7 : g2 < W3.heap.size := Y2.out.kp.1
  have HL : Shut (WCells W4 g2 [.slice c2 m2 d2, .int .i64 nx] ∧ THeld W4 (.agg #[.slice c2 m2 d2, .int .i64 nx]) 1 T lo g2) := ⟨Y2.out.kp.turned ht (.inr (Nat.le_refl _)), hH⟩
  replace Y1 := Shut.mk (Y1.out.turned ht l4)
  replace HB := Shut.mk (HB.out.trans (ht.below l5 HB.out.size))
  clear hH ht y0 y1 Y2 l7
  obtain ⟨K, hK⟩ : ∃ K, K = markK 1 T.nodes := ⟨_, rfl⟩
  rw [← hK]
  have HK := Shut.mk hK
  clear hK
  have hk0 : ¬ (K : Int) < 0 := by omega
  have hkk : ((K : Int) != (K : Int)) = false := by simp
  have y0 := (HL.out.1.2 0 _ rfl).1
  have y1 := (HL.out.1.2 1 _ rfl).1
  go_wp2_with fail
  refine (heldTree_val HL.out.2 HF.out (by omega) (by omega)).mono ?_
  rintro e W5 ⟨rfl, hb⟩
  rw [← HK.out]
  replace Y1 := Shut.mk (Y1.out.below hb)
  replace HL := Shut.mk (And.intro (HL.out.1.grow hb) (HL.out.2.below hb))
  replace HB := Shut.mk (HB.out.trans (hb.mono HB.out.size))
  clear hb y0 y1
  go_wp2_with fail
  refine (HH.out _).mono ?_
  rintro e w6 ⟨u3, rfl, hA, hb⟩
  obtain ⟨c3, m3, d3, rfl⟩ := tans_form hA
  rw [← HN.out] at hA ⊢
  have l9 : w.heap.size ≤ w6.heap.size := by have := HB.out.size; have := hb.size; omega
  have hbA : Below w6.heap.size w6 (w6.alloc (.cells #[.slice c3 m3 d3, .int .i64 nx] 26)) := (Below.refl _ _).alloc (Nat.le_refl _) _
  have HA : Shut (BZ (w6.alloc (.cells #[.slice c3 m3 d3, .int .i64 nx] 26)) w6.heap.size c3 m3 d3 nx T W5.heap.size ∧ BZ (w6.alloc (.cells #[.slice c3 m3 d3, .int .i64 nx] 26)) g1 c1 m1 d1 nx T w.heap.size ∧ (WCells (w6.alloc (.cells #[.slice c3 m3 d3, .int .i64 nx] 26)) g2 [.slice c2 m2 d2, .int .i64 nx] ∧ THeld (w6.alloc (.cells #[.slice c3 m3 d3, .int .i64 nx] 26)) (.agg #[.slice c2 m2 d2, .int .i64 nx]) 1 T lo g2) ∧ Below w.heap.size w (w6.alloc (.cells #[.slice c3 m3 d3, .int .i64 nx] 26))) :=
    ⟨BZ.new hA _, (Y1.out.below hb).below hbA, ⟨(HL.out.1.grow hb).grow hbA, (HL.out.2.below hb).below hbA⟩, (HB.out.trans (hb.mono HB.out.size)).trans (hbA.mono l9)⟩
  obtain ⟨g3, hg3⟩ : ∃ g, g = w6.heap.size := ⟨_, rfl⟩
  rw [← hg3] at HA
  clear hA hb hbA Y1 HB HL l9
  go_upto_region 14 with fail
  rw [← hg3]
  refine wp_shade (fun W => BZ W g3 c3 m3 d3 nx T W5.heap.size ∧ BZ W g1 c1 m1 d1 nx T w.heap.size ∧ (WCells W g2 [.slice c2 m2 d2, .int .i64 nx] ∧ THeld W (.agg #[.slice c2 m2 d2, .int .i64 nx]) 1 T lo g2) ∧ Below w.heap.size w W) HA.out ?_
  clear HA hg3
  rintro W6 ⟨hy, hy1, hh, hb⟩
  have Y3 := Shut.mk hy
  have Y1 := Shut.mk hy1
  have HL := Shut.mk hh
  have HB := Shut.mk hb
  clear hy hy1 hb hh
  have x0 := (Y1.out.kp.2 0 _ rfl).1
  have x1 := (Y1.out.kp.2 1 _ rfl).1
  have y0 := (Y3.out.kp.2 0 _ rfl).1
  have y1 := (Y3.out.kp.2 1 _ rfl).1
  go_wp2_with fail
  refine (eqTree_val Y3.out.cp.see Y1.out.cp.see HF.out).mono ?_
  rintro e W7 ⟨rfl, hb⟩
  replace HL := Shut.mk (And.intro (HL.out.1.grow hb) (HL.out.2.below hb))
  replace HB := Shut.mk (HB.out.trans (hb.mono HB.out.size))
  clear hb x0 x1 y0 y1 Y1 Y3
  have y0 := (HL.out.1.2 0 _ rfl).1
  have y1 := (HL.out.1.2 1 _ rfl).1
  go_wp2_with fail
  refine (heldTree_val HL.out.2 HF.out (by omega) (by omega)).mono ?_
  rintro e W8 ⟨rfl, hb⟩
  rw [← HK.out]
  replace HB := Shut.mk (HB.out.trans (hb.mono HB.out.size))
  clear hb y0 y1
  go_wp2_with fail
  go_ret
  exact ⟨rfl, HB.out⟩
end Go.Proofs.Ytfceohoegeebjaa
/- SpnC: The walks of the models' CutUnits and JoinUnits. -/
namespace Go.Proofs.Ytfceohoegeebjaa
open Go.RowKit
attribute [local go_sem ↓] Go.wp_at_zero Go.wp_at_succ

/-- The bytes of a text that lie in a unit, in their order. -/
def unitB (k : Nat) (t : ByteArray) (n u : Nat) : ByteArray := ⟨(((List.range n).filter fun j => decide (unitAt k j = u)).map fun j => t.data.toList.getD j 0).toArray⟩
def cutL (k : Nat) (t : ByteArray) (n : Nat) : List ByteArray := (List.range k).map (unitB k t n)
def cutX (s : Int) (t : ByteArray) : List ByteArray × Bool := if schOk s = true ∧ t.size ≤ groupN s then (cutL (schK s) t t.size, true) else ([], false)
theorem cutL_len (k : Nat) (t : ByteArray) (n : Nat) : (cutL k t n).length = k := by simp [cutL]
theorem cutL_at {k : Nat} {t : ByteArray} {n u : Nat} (h : u < k) : (cutL k t n).getD u ⟨#[]⟩ = unitB k t n u := by
  unfold cutL
  rw [List.getD_eq_getElem?_getD, List.getElem?_map, List.getElem?_range h]; rfl
theorem unit_lt {k : Nat} (h : 0 < k) (i : Nat) : unitAt k i < k := Nat.mod_lt _ h
def byteB (c : UInt8) : ByteArray := ⟨#[c]⟩
theorem unitB_same {k : Nat} {t : ByteArray} {i u : Nat} (h : unitAt k i = u) : unitB k t (i + 1) u = ⟨(unitB k t i u).data ++ (byteB (t.data.toList.getD i 0)).data⟩ := by
  unfold unitB byteB
  rw [List.range_succ, List.filter_append]
  simp [h]
theorem unitB_other {k : Nat} {t : ByteArray} {i u : Nat} (h : unitAt k i ≠ u) : unitB k t (i + 1) u = unitB k t i u := by
  unfold unitB
  rw [List.range_succ, List.filter_append]
  simp [h]
theorem cutL_step {k : Nat} (hk : 0 < k) (t : ByteArray) (i : Nat) : (cutL k t i).set (unitAt k i) ⟨((cutL k t i).getD (unitAt k i) ⟨#[]⟩).data ++ (byteB (t.data.toList.getD i 0)).data⟩ = cutL k t (i + 1) := by
  rw [cutL_at (unit_lt hk i), ← unitB_same rfl]
  apply List.ext_getElem (by simp [cutL])
  intro u h1 h2
  rw [List.getElem_set]
  have hu : u < k := by simpa [cutL] using h2
  simp only [cutL, List.getElem_map, List.getElem_range]
  by_cases e : unitAt k i = u
  · rw [if_pos e, e]
  · rw [if_neg e, unitB_other e]
theorem cutL_0 (k : Nat) (t : ByteArray) : cutL k t 0 = List.replicate k ⟨#[]⟩ := by
  apply List.ext_getElem (by simp [cutL])
  intro u h1 h2
  simp [cutL, unitB]
theorem byte_is {t : ByteArray} {i : Nat} (h : i < t.size) : t.extract i (i + 1) = byteB (t.data.toList.getD i 0) := by
  apply ByteArray.ext
  have h' : i < t.data.size := h
  simp only [byteB, ByteArray.data_extract]
  apply Array.ext
  · simp; omega
  · intro j h1 h2
    have hj : j = 0 := by simp at h2; omega
    subst hj
    simp
    rw [Array.getElem?_eq_getElem h', Option.getD_some]
theorem byte_size {t : ByteArray} {i : Nat} (h : i < t.size) : (t.extract i (i + 1)).size = 1 := by rw [byte_is h]; rfl
theorem byte_cat {x : ByteArray} {t : ByteArray} {i : Nat} (h : i < t.size) : x ++ t.extract i (i + 1) = ⟨x.data ++ (byteB (t.data.toList.getD i 0)).data⟩ := by
  rw [byte_is h]
  apply ByteArray.ext
  simp
theorem unitB_size (k : Nat) (t : ByteArray) (n u : Nat) : (unitB k t n u).size ≤ n := by
  have h := List.length_filter_le (fun j => decide (unitAt k j = u)) (List.range n)
  simp only [List.length_range] at h
  show (List.map _ _).toArray.size ≤ n
  rw [List.size_toArray, List.length_map]
  exact h
theorem WCells.drawn {w : World} {g : Nat} {L : List Value} (h : WCells w g L) : WCells w.drew g L := h.below (Below.drew (Below.refl w.heap.size w)) h.1
/-- What such an answer is. -/
def TPost8 (R : List ByteArray × Bool) (w : World) (e : Ending) (w' : World) : Prop := ∃ v, e = .returned (.tuple #[v, .bool R.2]) ∧ SAns w' v R.1 w.heap.size w'.heap.size ∧ Below w.heap.size w w'
end Go.Proofs.Ytfceohoegeebjaa
/- HexM: Plain facts on hexadecimal figures. -/
namespace Go.Proofs.Ytfceohoegeebjaa.W
open Go.PlainAid (bt)

/-- The figure of a number below 16. -/
def hfI (x : Int) : Int := if x < 10 then 48 + x else 87 + x
theorem hfI_bd (x : Int) (h0 : 0 ≤ x) (h1 : x < 16) : 0 ≤ hfI x ∧ hfI x < 256 := by unfold hfI; split <;> omega
def hf (n : Nat) : UInt8 := UInt8.ofNat (hfI n).toNat
theorem hf_toNat (n : Nat) (h : n < 16) : ((hf n).toNat : Int) = hfI n := by
  have := hfI_bd n (by omega) (by omega)
  unfold hf; simp; omega
def hexL (l : List UInt8) : List UInt8 := l.flatMap fun b => [hf (b.toNat / 16), hf (b.toNat % 16)]
theorem hexL_len (l : List UInt8) : (hexL l).length = 2 * l.length := by
  induction l with
  | nil => rfl
  | cons b l ih => simp [hexL] at ih ⊢; omega
theorem hexL_snoc (l : List UInt8) (b : UInt8) : hexL (l ++ [b]) = hexL l ++ [hf (b.toNat / 16), hf (b.toNat % 16)] := by simp [hexL]

/-- The first k bytes of a text. -/
def firstK (s : ByteArray) (k : Nat) : List UInt8 := s.data.toList.take k
theorem firstK_len (s : ByteArray) (k : Nat) (h : k ≤ s.size) : (firstK s k).length = k := by
  have e : s.data.size = s.size := rfl
  simp [firstK]; omega
theorem firstK_all (s : ByteArray) (k : Nat) (h : s.size ≤ k) : firstK s k = s.data.toList := by
  have e : s.data.size = s.size := rfl
  unfold firstK; exact List.take_of_length_le (by simp; omega)
theorem firstK_step (s : ByteArray) (k : Nat) (h : k < s.size) : ∃ b : UInt8, firstK s (k + 1) = firstK s k ++ [b] ∧ bt s k = (b.toNat : Int) := by
  refine ⟨s[k], ?_, ?_⟩
  · unfold firstK; rw [List.take_succ_eq_append_getElem (by simpa using h)]; rfl
  · unfold bt; rw [dif_pos h]
end Go.Proofs.Ytfceohoegeebjaa.W
namespace Go.Proofs.Ytfceohoegeebjaa
open Go.RowKit
open Go.PlainAid (bt)
theorem bt_words (s : ByteArray) (k : Nat) : IntKind.i64.wrap (bt s k) = bt s k ∧ (bt s k).tdiv 16 = bt s k / 16 ∧ IntKind.i64.wrap (bt s k / 16) = bt s k / 16 ∧ (bt s k).tmod 16 = bt s k % 16 ∧ IntKind.i64.wrap (bt s k % 16) = bt s k % 16 := by
  have b0 := Go.PlainAid.bt_nonneg s k
  have b1 := Go.PlainAid.bt_le s k
  refine ⟨IntWalk.i64_in _ ⟨by omega, by omega⟩, Int.tdiv_eq_ediv_of_nonneg b0, IntWalk.i64_in _ ⟨by omega, by omega⟩, Int.tmod_eq_emod_of_nonneg b0, IntWalk.i64_in _ ⟨by omega, by omega⟩⟩
theorem bt_words8 (s : ByteArray) (k : Nat) : IntKind.u8.wrap (bt s k / 16) = bt s k / 16 ∧ IntKind.u8.wrap (bt s k % 16) = bt s k % 16 := by
  have b0 := Go.PlainAid.bt_nonneg s k
  have b1 := Go.PlainAid.bt_le s k
  exact ⟨IntWalk.u8_in _ ⟨by omega, by omega⟩, IntWalk.u8_in _ ⟨by omega, by omega⟩⟩
/-- A byte of a string. -/
theorem index_str (s : ByteArray) (k : Nat) (h : k < s.size) (w : World) :
    (Instr.index 9 (.string s) (.int .i64 (k : Int))).run Try.prog w = .ok (.int .u8 (bt s k)) w := by
  have hb := Go.PlainAid.get_bt s k h
  rw [run_index_string _ 9 s .i64 k Try.underlying9, dif_pos ⟨by omega, by omega⟩, ← hb]
  rfl
/-- Behind the two figures of byte k. -/
theorem hex_own {B k : Nat} {s : ByteArray} {w1 : World} {v' : Value} {x y : Int} (hk : k < s.size) (hx : x = W.hfI (bt s k / 16)) (hy : y = W.hfI (bt s k % 16))
    (h : w1.ownsRow B 5 1 v' (2 * k + 2) (bv (W.hexL (W.firstK s k)) ++ [.int .u8 x, .int .u8 y])) :
    w1.ownsRow B 5 1 v' (2 * (k + 1)) (bv (W.hexL (W.firstK s (k + 1)))) := by
  obtain ⟨b, hb, e⟩ := W.firstK_step s k hk
  have hlt := b.toNat_lt
  have e1 : Value.int .u8 x = .int .u8 ((W.hf (b.toNat / 16)).toNat : Int) := by
    rw [W.hf_toNat _ (by omega), hx, e]; congr 2
  have e2 : Value.int .u8 y = .int .u8 ((W.hf (b.toNat % 16)).toNat : Int) := by
    rw [W.hf_toNat _ (by omega), hy, e]; congr 2
  have e3 : bv (W.hexL (W.firstK s k)) ++ [.int .u8 x, .int .u8 y] = bv (W.hexL (W.firstK s (k + 1))) := by
    rw [hb, W.hexL_snoc, e1, e2]; simp [bv]
  rw [e3] at h
  exact h
end Go.Proofs.Ytfceohoegeebjaa
/- SpnD: The walk of the model's JoinUnits. -/
namespace Go.Proofs.Ytfceohoegeebjaa
open Go.RowKit
attribute [local go_sem ↓] Go.wp_at_zero Go.wp_at_succ

def joinAt (k : Nat) (U : List ByteArray) (i : Nat) : UInt8 := (U.getD (unitAt k i) ⟨#[]⟩).data.toList.getD (placeIn k i) 0
def joinL (k : Nat) (U : List ByteArray) (n : Nat) : List UInt8 := (List.range n).map (joinAt k U)
def joinX (s : Int) (U : List ByteArray) (n : Int) : ByteArray × Bool := if schOk s = true ∧ U.length = schK s ∧ 0 ≤ n ∧ n ≤ (groupN s : Int) then (⟨(joinL (schK s) U n.toNat).toArray⟩, true) else (⟨#[]⟩, false)
theorem joinX_no {s : Int} {U : List ByteArray} {n : Int} (h : ¬ (schOk s = true ∧ U.length = schK s ∧ 0 ≤ n ∧ n ≤ (groupN s : Int))) : joinX s U n = (⟨#[]⟩, false) := if_neg h
def JoinPost (R : ByteArray × Bool) (w : World) (e : Ending) (w' : World) : Prop := e = .returned (.tuple #[.string R.1, .bool R.2]) ∧ Below w.heap.size w w'
theorem joinL_len (k : Nat) (U : List ByteArray) (n : Nat) : (joinL k U n).length = n := by simp [joinL]
theorem joinL_succ (k : Nat) (U : List ByteArray) (n : Nat) : bv (joinL k U (n + 1)) = bv (joinL k U n) ++ [.int .u8 ((joinAt k U n).toNat : Int)] := by
  unfold joinL; rw [List.range_succ, List.map_append]; simp [bv]
theorem get_byte (s : ByteArray) (k : Nat) (h : k < s.size) : Go.PlainAid.bt s k = ((s.data.toList.getD k 0).toNat : Int) := by
  unfold Go.PlainAid.bt
  rw [dif_pos h]
  have : s.data.toList.getD k 0 = s[k] := by
    have hk : k < s.data.size := h
    rw [List.getD_eq_getElem?_getD, Array.getElem?_toList, Array.getElem?_eq_getElem hk]
    rfl
  rw [this]
theorem get_none (s : ByteArray) (k : Nat) (h : ¬ k < s.size) : s.data.toList.getD k 0 = 0 := by
  have hk : s.data.toList.length ≤ k := by simpa using h
  rw [List.getD_eq_getElem?_getD, List.getElem?_eq_none hk]; rfl
theorem units_cells {w : World} {a : Option Addr} {L : List ByteArray} {lo hi : Nat} (h : RRow w a (tv L) lo hi) (hp : 0 < L.length) : ∃ b off, a = some ⟨b, off, none⟩ ∧ b < w.heap.size ∧ ∀ j, j < L.length → w.cell? ⟨b, off + j, none⟩ = some (.string (L.getD j ⟨#[]⟩)) := by
  obtain ⟨b, off, e, _, _, hb, hc⟩ := h (by rw [tv_len]; exact hp)
  exact ⟨b, off, e, hb, fun j hj => hc j _ (tv_get L j hj)⟩
end Go.Proofs.Ytfceohoegeebjaa
/- NestB: Rows of rows of numbers: the laws' own copies, sizes, comparisons and marks. -/
namespace Go.Proofs.Ytfceohoegeebjaa
open Go.RowKit
attribute [local go_sem ↓] Go.wp_at_zero Go.wp_at_succ

theorem infoRow : (Try.prog.info? 32).map (fun i => (i.zero, i.size, i.bytes)) = some (some (.slice none 0 0), 1, 24) := by kernel_rfl
/-- Where the copy of a row of rows stands. -/
structure TI (w wr : World) (ss : List SR) (ts : List SR) : Prop where
  rweq : rws ts = rws (ss.take ts.length)
  out : WCells wr w.heap.size (svs ts ++ List.replicate (ss.length - ts.length) (.slice none 0 0))
  rows : ∀ s ∈ ts, ∃ b, s.loc = some ⟨b, 0, none⟩ ∧ w.heap.size ≤ b ∧ b < wr.heap.size ∧ b ≠ w.heap.size ∧ WCells wr b (ics s.row) ∧ s.row.length ≤ s.cap
  apart : (ts.map SR.loc).Nodup
  bel : Below w.heap.size w wr
theorem set_mid (A B : List Value) (x y : Value) (k : Nat) (h : A.length = k) : (A ++ x :: B).set k y = A ++ y :: B := by
  subst h
  rw [List.set_append_right _ _ (Nat.le_refl _)]
  simp
theorem TI.next {w wr w1 : World} {ss ts : List SR} {g1 : Nat} {row : List Int} {n : Nat} (h : TI w wr ss ts) (hk : ts.length < ss.length) (hrow : (ss[ts.length]).row = row) (hn : n = row.length) (hw : w.heap.size < wr.heap.size)
    (hg1 : wr.heap.size ≤ g1) (hc : WCells w1 g1 (ics row)) (hb : Below wr.heap.size wr w1) : TI w (w1.setCell ⟨w.heap.size, ts.length, none⟩ (.slice (some ⟨g1, 0, none⟩) n n)) ss (ts ++ [SR.mk (some ⟨g1, 0, none⟩) row row.length]) := by
  subst hn
  have hne : g1 ≠ w.heap.size := by omega
  have hsz : (w1.setCell ⟨w.heap.size, ts.length, none⟩ (.slice (some ⟨g1, 0, none⟩) row.length row.length)).heap.size = w1.heap.size := by simp [World.setCell]
  have hgs : w1.grownBy (w1.setCell ⟨w.heap.size, ts.length, none⟩ (.slice (some ⟨g1, 0, none⟩) row.length row.length)) (some w.heap.size) := gb_set' _ _ _ _
  refine ⟨?_, ?_, ?_, ?_, ?_⟩
  · rw [rws_snoc, h.rweq, List.length_append, List.length_singleton, List.take_succ_eq_append_getElem hk, rws_snoc, hrow]
  · have o := (h.out.below hb h.out.1).set ts.length (.slice (some ⟨g1, 0, none⟩) row.length row.length) (by rw [List.length_append, svs_len, List.length_replicate]; omega)
    obtain ⟨m, hm⟩ : ∃ m, ss.length - ts.length = m + 1 := ⟨ss.length - ts.length - 1, by omega⟩
    rw [hm, List.replicate_succ, set_mid _ _ _ _ _ (svs_len ts)] at o
    have e : svs (ts ++ [SR.mk (some ⟨g1, 0, none⟩) row row.length]) ++ List.replicate (ss.length - (ts ++ [SR.mk (some ⟨g1, 0, none⟩) row row.length]).length) (.slice none 0 0) = svs ts ++ .slice (some ⟨g1, 0, none⟩) row.length row.length :: List.replicate m (.slice none 0 0) := by
      rw [List.length_append, List.length_singleton, show ss.length - (ts.length + 1) = m by omega]
      simp [svs, srv]
    rw [e]
    exact o
  · intro s hs
    rcases List.mem_append.1 hs with h1 | h1
    · obtain ⟨b, e, q1, q2, q3, q4, q5⟩ := h.rows s h1
      exact ⟨b, e, q1, by rw [hsz]; exact Nat.lt_of_lt_of_le q2 hb.size, q3, (q4.below hb q4.1).apart hgs q3, q5⟩
    · simp at h1
      subst h1
      exact ⟨g1, rfl, by omega, by rw [hsz]; exact hc.1, hne, hc.apart hgs hne, Nat.le_refl _⟩
  · rw [List.map_append, List.nodup_append]
    refine ⟨h.apart, by simp, fun l hl l' hl' => ?_⟩
    obtain ⟨s, hs, rfl⟩ := List.mem_map.1 hl
    simp only [List.map_cons, List.map_nil, List.mem_singleton] at hl'
    subst hl'
    obtain ⟨b, e, _, q2, _⟩ := h.rows s hs
    rw [e]
    intro e2
    have e4 : b = g1 := congrArg Addr.block (Option.some.inj e2)
    omega
  · exact (h.bel.trans (hb.mono h.bel.size)).setCell (p := ⟨w.heap.size, ts.length, none⟩) (Nat.le_refl _) _
theorem TI.fin {w wr : World} {ss ts : List SR} (h : TI w wr ss ts) (hl : ts.length = ss.length) : rws ts = rws ss ∧ MW wr w.heap.size ts w.heap.size wr.heap.size := by
  refine ⟨by rw [h.rweq, hl, List.take_of_length_le (Nat.le_refl _)], ?_, Nat.le_refl _, h.out.1, h.rows, h.apart⟩
  have := h.out
  rwa [hl, Nat.sub_self, List.replicate_zero, List.append_nil] at this
/-- What a copy of a row of rows is. -/
def ToRows (ss : List SR) (w : World) (e : Ending) (w' : World) : Prop :=
  ∃ g ts, e = .returned (.slice (some ⟨g, 0, none⟩) ss.length ss.length) ∧ List.length (α := SR) ts = ss.length ∧ rws ts = rws ss ∧ MW w' g ts w.heap.size w'.heap.size ∧ Below w.heap.size w w'
/-- The size of rows of numbers, as the laws count it. -/
def msum : List SR → Nat
  | [] => 0
  | s :: ss => s.row.length + msum ss
theorem msum_take (ss : List SR) (k : Nat) (h : k < ss.length) : msum (ss.take (k + 1)) = msum (ss.take k) + ss[k].row.length := by
  induction ss generalizing k with
  | nil => simp at h
  | cons s ss ih =>
    cases k with
    | zero => simp [msum]
    | succ k =>
      have := ih k (by simpa using h)
      simp only [List.take_succ_cons, msum, this, List.getElem_cons_succ]
      omega
theorem msum_le (ss : List SR) (k : Nat) : msum (ss.take k) ≤ msum ss := by
  induction ss generalizing k with
  | nil => simp [msum]
  | cons s ss ih =>
    cases k with
    | zero => simp [msum]
    | succ k => have := ih k; simp only [List.take_succ_cons, msum]; omega
theorem msum_mem {ss : List SR} {s : SR} (h : s ∈ ss) : s.row.length ≤ msum ss := by
  induction ss with
  | nil => simp at h
  | cons t ss ih =>
    rcases List.mem_cons.1 h with rfl | h
    · simp only [msum]; omega
    · have := ih h; simp only [msum]; omega
/-- What is left of the room: or a number below 0. -/
def SzRows (left : Int) (n : Nat) (w : World) (e : Ending) (w' : World) : Prop := ∃ r : Int, e = .returned (.int .i64 r) ∧ w' = w ∧ ((n : Int) ≤ left → r = left - n) ∧ (left < n → r < 0)
end Go.Proofs.Ytfceohoegeebjaa
/- NestC: Rows of rows of numbers: the laws' own comparisons, marks that are laid into one, and found again. -/
namespace Go.Proofs.Ytfceohoegeebjaa
open Go.RowKit
attribute [local go_sem ↓] Go.wp_at_zero Go.wp_at_succ

set_option maxHeartbeats 1000000 in
theorem markIntS_marks (g : Nat) (xs : List Int) (k ca : Nat) (w : World) (ha : WCells w g (ics xs)) (hn : k + xs.length ≤ 1000000000) (hca : xs.length ≤ ca) :
    Calls Try.prog 41 #[.slice (some ⟨g, 0, none⟩) xs.length ca, .int .i64 k] w fun e w' => e = .returned (.int .i64 (k + xs.length : Nat)) ∧ WCells w' g (ics (marksI k xs.length)) ∧ w.grownBy w' (some g) := by
  obtain ⟨n, hnx⟩ : ∃ n, n = xs.length := ⟨_, rfl⟩
  have HN : Hid (n = xs.length) := hnx
  rw [← hnx]
  rw [← hnx] at hn hca
  clear hnx
  have HA : Shut (WCells w g (ics xs)) := ⟨ha⟩
  clear ha
  go_enter Try.func41, Try.ntmps41
  go_wp2_with fail
  go_loopw [1, 5] (fun c i wr => ∃ (j : Nat) (ys : List Int), i = .int .i64 j ∧ c = .int .i64 (k + j : Nat) ∧ j ≤ n ∧ Shut (ys.length = n ∧ ∀ t, t < j → ys.getD t 0 = ((k + t : Nat) : Int)) ∧ Shut (WCells wr g (ics ys)) ∧ w.grownBy wr (some g)) (fun _ i _ => n - (intOf i).toNat)
  case atStart => exact ⟨0, xs, rfl, rfl, Nat.zero_le _, ⟨HN.out.symm, fun t ht => by omega⟩, HA, ⟨rfl, rfl, rfl, Nat.le_refl _, fun _ _ _ => rfl⟩⟩
  case round =>
    obtain ⟨j, ys, rfl, rfl, hj, hyl, hw, hgr⟩ := hrel
    by_cases hlt : j < n
    · have j0 : (0 : Int) ≤ (j : Int) := by omega
      have j1 : (j : Int) < (n : Int) := by omega
      obtain ⟨c0, z0⟩ := hw.out.2 j _ (ics_get ys j (by rw [hyl.out.1]; exact hlt))
      have hset := hw.out.set j (.int .i64 ((k : Int) + (j : Int))) (by rw [ics_len, hyl.out.1]; omega)
      rw [ics_set] at hset
      have HS : Shut (WCells (wr.setCell ⟨g, j, none⟩ (.int .i64 ((k : Int) + (j : Int)))) g (ics (ys.set j ((k : Int) + (j : Int))))) := ⟨hset⟩
      have HG : Hid (w.grownBy (wr.setCell ⟨g, j, none⟩ (.int .i64 ((k : Int) + (j : Int)))) (some g)) := gb_two' hgr (gb_set' wr g j _)
      have HY : Shut ((ys.set j ((k : Int) + (j : Int))).length = n ∧ ∀ t, t < j + 1 → (ys.set j ((k : Int) + (j : Int))).getD t 0 = ((k + t : Nat) : Int)) := ⟨by rw [List.length_set]; exact hyl.out.1, fun t ht => by
        by_cases e : t = j
        · subst e; simp [List.getD, show t < ys.length by rw [hyl.out.1]; exact hlt]
        · have := hyl.out.2 t (by omega)
          simpa [List.getD, List.getElem?_set, Ne.symm e] using this⟩
      clear hset hyl hgr hw
      go_wp2_with fail
      go_roundw
      case rel => exact ⟨j + 1, _, by go_num, congrArg (Value.int .i64) (by omega), by omega, HY, HS, HG.out⟩
      case measure => simp [intOf]; omega
    · have e : j = n := by omega
      subst e
      have ey : ys = marksI k j := by
        apply List.ext_getElem
        · rw [hyl.out.1, marksI_len]
        · intro t h1 h2
          have h3 := hyl.out.2 t (by rw [hyl.out.1] at h1; exact h1)
          have h4 := marksI_at k j t (by rw [hyl.out.1] at h1; exact h1)
          rw [← h4] at h3
          simpa [List.getD, h1, h2] using h3
      have HW : Shut (WCells wr g (ics (marksI k j))) := ⟨by rw [← ey]; exact hw.out⟩
      clear ey hyl hw
      go_wp2_with fail
      go_ret
      exact ⟨rfl, HW.out, hgr⟩
set_option maxHeartbeats 1000000 in
theorem heldIntS_marks (a : Option Addr) (k n ca : Nat) (w : World) (ha : CRow w a (ics (marksI k n))) (hn : k + n ≤ 1000000000) :
    Calls Try.prog 42 #[.slice a n ca, .int .i64 k] w fun e w' => e = .returned (.int .i64 (k + n : Nat)) ∧ Below w.heap.size w w' := by
  have HA : Hid (CRow w a (ics (marksI k n))) := ha
  clear ha
  go_enter Try.func42, Try.ntmps42
  go_wp2_with fail
  go_loopw [1, 5] (fun c i wr => ∃ (j : Nat), i = .int .i64 j ∧ c = .int .i64 (k + j : Nat) ∧ j ≤ n ∧ Below w.heap.size w wr) (fun _ i _ => n - (intOf i).toNat)
  case atStart => exact ⟨0, rfl, rfl, Nat.zero_le _, Below.refl _ _⟩
  case round =>
    obtain ⟨j, rfl, rfl, hj, hbl⟩ := hrel
    by_cases hlt : j < n
    · obtain ⟨b1, o1, rfl, l1, hc1⟩ := crow_int (HA.out.stays hbl) (by rw [marksI_len]; omega)
      have d0 := hc1 j (by rw [marksI_len]; exact hlt)
      rw [marksI_at k n j hlt] at d0
      have j0 : (0 : Int) ≤ (j : Int) := by omega
      have j1 : (j : Int) < (n : Int) := by omega
      have hbn : ∀ q, Below w.heap.size w (wr.drewN q) := fun q => hbl.trans ⟨rfl, rfl, rfl, Nat.le_refl _, fun _ _ => rfl⟩
      have HB0 : Hid (Below w.heap.size w wr) := hbl
      clear hc1 hbl
      go_wp2_with fail
      all_goals (try go_quiet (fail))
      all_goals go_wp2_with fail
      all_goals exact ⟨⟨j + 1, by go_num, congrArg (Value.int .i64) (by omega), by omega, by first | exact hbn _ | exact HB0.out⟩, by simp [intOf]; omega⟩
    · have e : j = n := by omega
      subst e
      go_wp2_with fail
      go_ret
      exact ⟨rfl, hbl⟩
end Go.Proofs.Ytfceohoegeebjaa
/- SpnE: Rows of numbers as values: their comparison, marks that are laid and found again. -/
namespace Go.Proofs.Ytfceohoegeebjaa
open Go.RowKit

theorem eqIntS_val {w : World} {v u : Value} {xs : List Int} {lo hi lo' hi' : Nat} (h : IAns w v xs lo hi) (k : IAns w u xs lo' hi') (hf : xs.length ≤ 1048576) : Calls Try.prog 40 #[v, u] w fun e w' => e = .returned (.bool true) ∧ Below w.heap.size w w' := by
  obtain ⟨a, cap, rfl, h1⟩ := h.crow
  obtain ⟨b, cap', rfl, h2⟩ := k.crow
  exact eqIntS_same a b xs cap cap' w h1 h2 hf
theorem markIntS_val {w : World} {v : Value} {xs : List Int} {lo hi : Nat} (k : Nat) (h : IAns w v xs lo hi) (hk : k + xs.length ≤ 100000000) :
    Calls Try.prog 41 #[v, .int .i64 k] w fun e w' => e = .returned (.int .i64 (k + xs.length : Nat)) ∧ IAns w' v (marksI k xs.length) lo hi ∧ Turned w w' lo hi := by
  obtain ⟨a, cap, rfl, hc, h1⟩ := h
  rcases h1 with rfl | ⟨g, rfl, q1, q2, hm⟩
  · refine (markIntS_none a k cap w).mono ?_
    rintro e w' ⟨rfl, rfl⟩
    exact ⟨rfl, ⟨a, cap, by rw [marksI_len], by rw [marksI_len]; exact Nat.zero_le _, .inl rfl⟩, Turned.refl _ _ _⟩
  · refine (markIntS_marks g xs k cap w hm (by omega) hc).mono ?_
    rintro e w' ⟨rfl, hw, hg⟩
    exact ⟨rfl, ⟨_, cap, by rw [marksI_len], by rw [marksI_len]; exact hc, .inr ⟨g, rfl, q1, q2, hw⟩⟩, Turned.of_grown hg q1 q2⟩
theorem heldIntS_val {w : World} {v : Value} {k n lo hi : Nat} (h : IAns w v (marksI k n) lo hi) (hk : k + n ≤ 100000000) :
    Calls Try.prog 42 #[v, .int .i64 k] w fun e w' => e = .returned (.int .i64 (k + n : Nat)) ∧ Below w.heap.size w w' := by
  obtain ⟨a, cap, rfl, h1⟩ := h.crow
  rw [marksI_len]
  exact heldIntS_marks a k n cap w h1 (by omega)
theorem spansX_len (s n : Int) : (spansX s n).length ≤ 1001 := by
  unfold spansX
  split
  · rename_i h
    unfold spanL
    rw [List.length_append, List.length_replicate, List.length_singleton]
    have := Nat.div_le_self (n.toNat - 1) (groupN s)
    omega
  · exact Nat.zero_le _
end Go.Proofs.Ytfceohoegeebjaa
