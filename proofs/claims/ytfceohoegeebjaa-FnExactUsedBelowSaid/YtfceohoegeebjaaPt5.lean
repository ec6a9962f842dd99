/- Texts of ours, laid one behind the other: TreY, LawTre, OpenM, TreO, MapA, LkP, LkA, LkB, LkC. -/
import Derived.Test.YtfceohoegeebjaaPt4
import Derived.Deep.Slices
import Derived.Deep.Strs
import Derived.ChangeArms
import Derived.ChangeSame
import Derived.WideShapes
import Derived.OpenShut
import Derived.Maps.OwnSet
import Derived.Maps.RangeWalk
import Derived.WalkKit
import Derived.Maps.OwnOps
import Derived.Deep.CutRange
/- TreY: The walk of the model's RoomFor. -/
namespace Go.Proofs.Ytfceohoegeebjaa
open Go.RowKit
attribute [local go_sem ↓] Go.wp_at_zero Go.wp_at_succ

/-- Is there room, from here on up? -/
def roomF (T : TM) (m : Int) : Nat → Nat → Int → Bool
  | 0, _, _ => false
  | f + 1, st, id => match T.nodes.findIdx? (fun n => n.id == id) with
    | none => decide (0 < st)
    | some k => if (T.nodes.getD k default).dir = true ∧ 0 < (T.nodes.getD k default).quota ∧ (T.nodes.getD k default).quota - usedX T id < m then false else roomF T m f (st + 1) (T.nodes.getD k default).parent
theorem roomF_none {T : TM} {m c : Int} {f st : Nat} (h : T.nodes.findIdx? (fun n => n.id == c) = none) : roomF T m (f + 1) st c = decide (0 < st) := by
  conv => lhs; unfold roomF
  rw [h]
theorem roomF_some {T : TM} {m c : Int} {f st i : Nat} (h : T.nodes.findIdx? (fun n => n.id == c) = some i) : roomF T m (f + 1) st c = if (T.nodes.getD i default).dir = true ∧ 0 < (T.nodes.getD i default).quota ∧ (T.nodes.getD i default).quota - usedX T c < m then false else roomF T m f (st + 1) (T.nodes.getD i default).parent := by
  conv => lhs; unfold roomF
  rw [h]
def roomX (T : TM) (id m : Int) : Bool := if treeOk T = true then roomF T m 15 0 id else false
theorem nodeOk_quota {T : TM} {i : Nat} (h : nodeOk T i = true) (hd : (T.nodes.getD i default).dir = true) : 0 ≤ (T.nodes.getD i default).quota ∧ (T.nodes.getD i default).quota ≤ 1000 := by
  unfold nodeOk at h
  simp only [Bool.and_eq_true] at h
  have h3 := h.1.2
  rw [if_pos hd] at h3
  unfold dirOk at h3
  simp only [Bool.and_eq_true] at h3
  exact inI_iff.1 h3.1.1.1.2
theorem usedL_le {ns : List NM} {xs : List Int} (h : ∀ x ∈ xs, 0 ≤ (ns.getD (atI ns x).toNat default).len ∧ (ns.getD (atI ns x).toNat default).len ≤ 1000) : 0 ≤ usedL ns xs ∧ usedL ns xs ≤ 1000 * xs.length := by
  induction xs with
  | nil => simp [usedL]
  | cons x xs ih =>
    have h1 := ih (fun y hy => h y (by simp [hy]))
    have h2 := h x (by simp)
    simp only [usedL, List.length_cons]
    push_cast
    omega
theorem usedX_le (T : TM) (id : Int) : 0 ≤ usedX T id ∧ usedX T id ≤ 14000 := by
  unfold usedX
  have h := usedL_le (ns := T.nodes) (xs := belowX T id) (fun x hx => by
    obtain ⟨i, _, hat, h1⟩ := belowX_at hx
    rw [hat, Int.toNat_natCast]; exact h1)
  have := belowX_len T id
  omega
attribute [local irreducible] nodeOk treeOk atI belowF belowL belowX usedX
set_option maxRecDepth 100000 in
set_option maxHeartbeats 8000000 in
theorem specRoomFor {w : World} {v : Value} {T : TM} {lo hi : Nat} (id m : Int) (h : TSee w v T lo hi) (hf : NFit T) : Calls Try.prog 19 #[v, .int .i64 id, .int .i64 m] w fun e w' => e = .returned (.bool (roomX T id m)) ∧ Below w.heap.size w w' := by
  have hl : T.nodes.length ≤ 1048576 := by unfold NFit at hf; omega
  have h' := h
  obtain ⟨a, cap, rs, rfl, hr, hm⟩ := h
  obtain ⟨n, hn⟩ : ∃ n, n = rs.length := ⟨_, rfl⟩
  rw [← hn] at h' ⊢
  have HTS := Shut.mk (fun W (hW : Below w.heap.size w W) (c : Int) => specAt c (h'.below hW) hl)
  have HUS := Shut.mk (fun W (hW : Below w.heap.size w W) (c : Int) => specUsedBelow c (h'.below hW) hf)
  have HTO := Shut.mk (fun W (hW : Below w.heap.size w W) => specTreeOk (h'.below hW) hf)
  obtain ⟨R, hR⟩ : ∃ R, R = roomX T id m := ⟨_, rfl⟩
  rw [← hR]
  unfold roomX at hR
  obtain ⟨nodes, nx⟩ := T
  dsimp only at hr HTS HUS HTO hR
  subst hr
  have HM := Shut.mk (And.intro hm hn)
  have hn9 : n ≤ 1048576 := by dsimp only at hl; rw [nds_len] at hl; omega
  have HR := Shut.mk hR
  clear hm hf hR hn h' hl
  cases hok : treeOk ⟨nds rs, nx⟩ with
  | false =>
    have HE : Shut (R = false) := ⟨by rw [HR.out, if_neg (by rw [hok]; decide)]⟩
    rw [hok] at HTO
    clear hok
    go_enter Try.func19, Try.ntmps19
    go_upto_region 1 with fail
    refine wp_shade (fun W => BX w W a n cap nx) (BX.new w a n cap nx 26) ?_
    intro W hg
    have HG := Shut.mk hg
    have x0 := (hg.box.2 0 _ rfl).1
    have x1 := (hg.box.2 1 _ rfl).1
    clear hg
    go_wp2_with fail
    refine (HTO.out _ HG.out.bel).mono ?_
    rintro e W1 ⟨rfl, hb1⟩
    have HG1 := Shut.mk (HG.out.below hb1)
    clear hb1
    go_wp2_with fail
    go_ret
    exact ⟨by rw [HE.out]; rfl, HG1.out.bel⟩
  | true =>
    have HRR : Shut (R = roomF ⟨nds rs, nx⟩ m 15 0 id) := ⟨by rw [HR.out, if_pos hok]⟩
    have HOK := Shut.mk hok
    rw [hok] at HTO
    clear hok HR
    go_enter Try.func19, Try.ntmps19
    go_upto_region 1 with fail
    refine wp_shade (fun W => BX w W a n cap nx) (BX.new w a n cap nx 26) ?_
    intro W hg
    have HG := Shut.mk hg
    have x0 := (hg.box.2 0 _ rfl).1
    have x1 := (hg.box.2 1 _ rfl).1
    clear hg
    go_wp2_with fail
    refine (HTO.out _ HG.out.bel).mono ?_
    rintro e W1 ⟨rfl, hb1⟩
    have HG1 := Shut.mk (HG.out.below hb1)
    clear hb1 x0 x1 HG
    go_wp2_with fail
    go_loopw [1, 7] (fun iv mv wr => ∃ (s : Nat) (c : Int), iv = .int .i64 c ∧ mv = .int .i64 s ∧ s ≤ 15 ∧ Shut (R = roomF ⟨nds rs, nx⟩ m (15 - s) s c) ∧ Shut (BX w wr a n cap nx)) (fun _ mv _ => 15 - (intOf mv).toNat)
    case atStart => exact ⟨0, id, rfl, rfl, by omega, ⟨HRR.out⟩, HG1⟩
    case round =>
      clear HG1
      obtain ⟨s, c, rfl, rfl, hs15, hcl, HG⟩ := hrel
      by_cases hlt : s < 15
      · have m1 : (s : Int) ≤ 14 := by omega
        obtain ⟨f, hf⟩ : ∃ f, f = 15 - (s + 1) := ⟨_, rfl⟩
        have hcl' := hcl.out
        rw [show 15 - s = f + 1 by omega] at hcl'
        have x0 := (HG.out.box.2 0 _ rfl).1
        have x1 := (HG.out.box.2 1 _ rfl).1
        have HAT := Shut.mk (HTS.out wr HG.out.bel c)
        rcases at_cases (nds rs) c with ⟨hat, hfn⟩ | ⟨i, hi, hat, hfn⟩
        · have HE : Shut (R = decide ((0 : Int) < (s : Int))) := ⟨by rw [hcl', roomF_none hfn]; exact decide_eq_decide.2 ⟨fun h => by omega, fun h => by omega⟩⟩
          rw [hat] at HAT
          clear hcl' hcl hf hfn hat
          by_cases hs0 : 0 < s
          · have hsI : (0 : Int) < (s : Int) := by omega
            have HF : Shut (R = true) := ⟨by rw [HE.out, decide_eq_true hsI]⟩
            clear HE
            go_wp2_with fail
            refine HAT.out.mono ?_
            rintro e W6 ⟨rfl, hb6⟩
            have HG6 := Shut.mk (HG.out.below hb6)
            clear hb6
            go_wp2_with fail
            go_ret
            exact ⟨by rw [HF.out]; first | rfl | simp [hs0], HG6.out.bel⟩
          · have hs1 : s = 0 := by omega
            subst hs1
            have HF : Shut (R = false) := ⟨by rw [HE.out]; rfl⟩
            clear HE
            go_wp2_with fail
            refine HAT.out.mono ?_
            rintro e W6 ⟨rfl, hb6⟩
            have HG6 := Shut.mk (HG.out.below hb6)
            clear hb6
            go_wp2_with fail
            go_ret
            exact ⟨by rw [HF.out]; rfl, HG6.out.bel⟩
        · have hir : i < rs.length := by rw [nds_len] at hi; exact hi
          have hnk := treeOk_node HOK.out (i := i) hi
          have hqd := fun hd => nodeOk_quota hnk hd
          have hus := usedX_le ⟨nds rs, nx⟩ c
          have HNX : Shut (R = if rs[i].nd.dir = true ∧ 0 < rs[i].nd.quota ∧ rs[i].nd.quota - usedX ⟨nds rs, nx⟩ c < m then false else roomF ⟨nds rs, nx⟩ m (15 - (s + 1)) (s + 1) rs[i].nd.parent) := ⟨by rw [hcl', roomF_some hfn]; dsimp only; rw [nds_getD hir, ← hf]⟩
          dsimp only at hqd
          rw [nds_getD hir] at hqd
          rw [hat] at HAT
          have i0 : (0 : Int) ≤ (i : Int) := by omega
          have i1 : (i : Int) < (n : Int) := by have := HM.out.2; omega
          have i2 : ¬ (i : Int) < 0 := by omega
          clear hcl' hcl hf hfn hat hi hnk
          go_wp2_with fail
          refine HAT.out.mono ?_
          rintro e W6 ⟨rfl, hb6⟩
          have HG6 := Shut.mk (HG.out.below hb6)
          clear hb6 x0 x1 HAT HG
          have x0 := (HG6.out.box.2 0 _ rfl).1
          have x1 := (HG6.out.box.2 1 _ rfl).1
          have hwl : w.heap.size < W6.heap.size := HG6.out.box.1
          obtain ⟨b, off, rfl, lb, hc⟩ := TR.nat (HM.out.1.below HG6.out.bel) (by omega)
          have HC := Shut.mk (hc i hir)
          have e1 := (hc i hir).2.1
          have e3 := (hc i hir).2.2.2.1
          have e5 := (hc i hir).2.2.2.2.2.1
          have HUC := Shut.mk (fun W (hW : Below W6.heap.size W6 W) => HUS.out W (HG6.out.bel.trans (hW.mono HG6.out.bel.size)) c)
          clear hc
          generalize usedX ⟨nds rs, nx⟩ c = u at *
          generalize rs[i] = r at *
          cases hd : r.nd.dir with
          | false =>
            rw [hd] at e3
            have HN2 : Shut (R = roomF ⟨nds rs, nx⟩ m (15 - (s + 1)) (s + 1) r.nd.parent) := ⟨by rw [HNX.out, if_neg (by rw [hd]; simp)]⟩
            clear hd HNX hqd
            go_wp2_with fail
            go_quiet (fail)
            go_wp2_with fail
            go_roundw
            case rel => exact ⟨s + 1, r.nd.parent, rfl, by go_num, by omega, HN2, ⟨HG6.out.below ⟨rfl, rfl, rfl, Nat.le_refl _, fun _ _ => rfl⟩⟩⟩
            case measure => simp [intOf]; omega
          | true =>
            rw [hd] at e3
            have hq := hqd hd
            by_cases hq0 : 0 < r.nd.quota
            · have hq0' : decide ((0 : Int) < r.nd.quota) = true := by simpa using hq0
              have hwq : IntKind.i64.wrap (r.nd.quota - u) = r.nd.quota - u := IntWalk.i64_in _ ⟨by omega, by omega⟩
              have HNX' : Shut (R = if r.nd.quota - u < m then false else roomF ⟨nds rs, nx⟩ m (15 - (s + 1)) (s + 1) r.nd.parent) := ⟨by
                rw [HNX.out]
                by_cases hc : r.nd.quota - u < m
                · rw [if_pos hc, if_pos ⟨hd, hq0, hc⟩]
                · rw [if_neg hc, if_neg (fun q => hc q.2.2)]⟩
              clear hd HNX hqd
              go_wp2_with fail
              go_region_held3 (fun w' => w'.cell? ⟨w.heap.size, 0, none⟩ = some (.slice (some ⟨b, off, none⟩) n cap) ∧ w'.cell? ⟨w.heap.size, 1, none⟩ = some (.int .i64 nx) ∧ w'.cell? ⟨b, off + i * 9 + 3, none⟩ = some (.bool true) ∧ w'.cell? ⟨b, off + i * 9 + 5, none⟩ = some (.int .i64 r.nd.quota))
                (first | go_keep | (refine ⟨?_, ?_, ?_, ?_⟩ <;> first | (rw [hb9.cell (by exact hwl)]; simp [*]; done) | (rw [hb9.cell (by exact lb)]; simp [*]; done)))
                ((go_at_call 44; refine (HUC.out _ (by first | exact Below.refl _ _ | exact Below.drew (Below.refl _ _))).mono ?_; rintro e w9 ⟨rfl, hb9⟩))
              all_goals
                have hb : Below W6.heap.size W6 w9 := by first | exact (Below.drew (Below.refl _ _)).trans hb9 | exact hb9
                have HG9 := Shut.mk (HG6.out.below hb)
                have z0 := (HG9.out.box.2 0 _ rfl).1
                have f1 := (HC.out.below hb lb).2.1
                clear hb hb9
                by_cases hc : r.nd.quota - u < m
                · have hc' : decide (r.nd.quota - u < m) = true := by simpa using hc
                  have HE : Shut (R = false) := ⟨by rw [HNX'.out, if_pos hc]⟩
                  clear HNX'
                  go_wp2_with fail
                  go_ret
                  exact ⟨by rw [HE.out]; rfl, HG9.out.bel⟩
                · have hc' : decide (r.nd.quota - u < m) = false := by simpa using hc
                  have HN2 : Shut (R = roomF ⟨nds rs, nx⟩ m (15 - (s + 1)) (s + 1) r.nd.parent) := ⟨by rw [HNX'.out, if_neg hc]⟩
                  clear HNX'
                  go_wp2_with fail
                  go_roundw
                  case rel => exact ⟨s + 1, r.nd.parent, rfl, by go_num, by omega, HN2, HG9⟩
                  case measure => simp [intOf]; omega
            · have hq0' : decide ((0 : Int) < r.nd.quota) = false := by simpa using hq0
              have HN2 : Shut (R = roomF ⟨nds rs, nx⟩ m (15 - (s + 1)) (s + 1) r.nd.parent) := ⟨by rw [HNX.out, if_neg (fun q => hq0 q.2.1)]⟩
              clear hd HNX hqd
              go_wp2_with fail
              go_quiet (fail)
              go_wp2_with fail
              go_roundw
              case rel => exact ⟨s + 1, r.nd.parent, rfl, by go_num, by omega, HN2, ⟨HG6.out.below ⟨rfl, rfl, rfl, Nat.le_refl _, fun _ _ => rfl⟩⟩⟩
              case measure => simp [intOf]; omega
      · have hm : s = 15 := by omega
        have HE : Shut (R = false) := ⟨by rw [hcl.out, hm]; rfl⟩
        have m1 : ¬ (s : Int) ≤ 14 := by omega
        clear hm hcl
        go_wp2_with fail
        go_ret
        exact ⟨by rw [HE.out]; rfl, HG.out.bel⟩
end Go.Proofs.Ytfceohoegeebjaa
/- LawTre: The walks of the exact laws over trees whose answers are a number, a text or a flag, over what is told of the program's own functions at every argument (written by gen/mklawtree.py). -/
namespace Go.Proofs.Ytfceohoegeebjaa
open Go.RowKit
attribute [local go_sem ↓] Go.wp_at_zero Go.wp_at_succ
attribute [local irreducible] nodeOk treeOk atI findX pathX schemaAtX usedX roomX

/-- Two boxes: what was handed over, and a copy of it. -/
structure BY (w W : World) (a : Option Addr) (n cap : Nat) (nx : Int) (g : Nat) (c : Option Addr) (m cc : Nat) (T : TM) : Prop where
  bx : BX w W a n cap nx
  kp : WCells W g [.slice c m cc, .int .i64 nx]
  cp : TSee W (.agg #[.slice c m cc, .int .i64 nx]) T w.heap.size g
theorem BY.below {w W W' : World} {a c : Option Addr} {n cap g m cc : Nat} {nx : Int} {T : TM} (h : BY w W a n cap nx g c m cc T) (hb : Below W.heap.size W W') : BY w W' a n cap nx g c m cc T := ⟨h.bx.below hb, h.kp.grow hb, h.cp.below hb⟩
set_option maxRecDepth 100000 in
set_option maxHeartbeats 4000000 in
theorem lawTreeOk (h : ∀ (w : World) (v : Value) (T : TM) (lo hi : Nat), TSee w v T lo hi → NFit T → NInt T.nodes → Calls Try.prog 28 #[v] w fun e w' => e = .returned (.bool (treeOk T)) ∧ Below w.heap.size w w') {w : World} {v : Value} {T : TM} (hv : TSee w v T 0 w.heap.size) (lT : NOk T.nodes) (lI : NInt T.nodes) :
    Calls Try.prog 5 #[v] w fun e w' => e = .returned (.bool true) ∧ Below w.heap.size w w' := by
  have h' := hv
  obtain ⟨a, cap, rs, rfl, hr, hm⟩ := hv
  obtain ⟨n, hn⟩ : ∃ n, n = rs.length := ⟨_, rfl⟩
  rw [← hn] at h' ⊢
  obtain ⟨nodes, nx⟩ := T
  dsimp only at h' ⊢
  generalize hT : (⟨nodes, nx⟩ : TM) = T at *
  have HN : Shut (NOk T.nodes ∧ T.next = nx) := ⟨lT, by rw [← hT]⟩
  have FV := Shut.mk h'
  have HH := Shut.mk h
  have HI : Shut (NInt T.nodes) := ⟨lI⟩
  clear h h' hm hr hn hT lT lI
  go_enter Try.func5, Try.ntmps5
  go_upto_region 1 with fail
  refine wp_shade (fun W => BX w W a n cap nx) (BX.new w a n cap nx 40) ?_
  intro W hg
  have HG := Shut.mk hg
  have x0 := (hg.box.2 0 _ rfl).1
  have x1 := (hg.box.2 1 _ rfl).1
  clear hg
  go_wp2_with fail
  refine (szTree_val 1048576 (FV.out.below HG.out.bel) HN.out.1 (by omega) (by omega)).mono ?_
  rintro e w1 ⟨r0, rfl, _, q1, hb⟩
  replace HG := Shut.mk (HG.out.below hb)
  clear hb x0 x1
  by_cases r0n : r0 < 0
  case pos =>
    clear q1
    go_wp2_with fail
    go_ret
    exact ⟨rfl, HG.out.bel⟩
  have hr := q1 (by omega)
  have HF : Shut (NFit T) := ⟨by unfold NFit; omega⟩
  clear q1 hr
  have x0 := (HG.out.box.2 0 _ rfl).1
  have x1 := (HG.out.box.2 1 _ rfl).1
  go_wp2_with fail
  refine (toTree_val (FV.out.below HG.out.bel) HF.out).mono ?_
  rintro e w2 ⟨u1, rfl, hA, hb⟩
  have HA := Shut.mk hA
  replace HG := Shut.mk (HG.out.below hb)
  clear hA hb x0 x1
  have x0 := (HG.out.box.2 0 _ rfl).1
  have x1 := (HG.out.box.2 1 _ rfl).1
  go_wp2_with fail
  refine (specTreeOk HA.out.see HF.out).mono ?_
  rintro e w3 ⟨rfl, hb⟩
  replace HG := Shut.mk (HG.out.below hb)
  clear hb x0 x1 HA
  have x0 := (HG.out.box.2 0 _ rfl).1
  have x1 := (HG.out.box.2 1 _ rfl).1
  go_wp2_with fail
  refine (toTree_val (FV.out.below HG.out.bel) HF.out).mono ?_
  rintro e w4 ⟨u2, rfl, hA, hb⟩
  have hz3 := HG.out.bel.size
  replace HG := Shut.mk (HG.out.below hb)
  obtain ⟨c, cc, ts, rfl, ht, _, _⟩ := id hA
  obtain ⟨m, hm⟩ : ∃ m, m = ts.length := ⟨_, rfl⟩
  rw [← hm, HN.out.2] at hA ⊢
  have HY : Shut (BY w (w4.alloc (.cells #[.slice c m cc, .int .i64 nx] 26)) a n cap nx w4.heap.size c m cc T) := ⟨HG.out.below ((Below.refl _ _).alloc (Nat.le_refl _) _), wcells_new w4 #[.slice c m cc, .int .i64 nx] 26, (hA.see.below ((Below.refl _ _).alloc (Nat.le_refl _) _)).wide hz3 (Nat.le_refl _)⟩
  obtain ⟨g, hg⟩ : ∃ g, g = w4.heap.size := ⟨_, rfl⟩
  rw [← hg] at HY
  clear hA hb ht hm x0 x1
  go_upto_region 7 with fail
  rw [← hg]
  refine wp_shade (fun W => BY w W a n cap nx g c m cc T) HY.out ?_
  clear HY HG hg hz3
  intro W5 hy
  have HY := Shut.mk hy
  have y0 := (hy.kp.2 0 _ rfl).1
  have y1 := (hy.kp.2 1 _ rfl).1
  clear hy
  go_wp2_with fail
  refine (HH.out _ _ T _ _ HY.out.cp HF.out HI.out).mono ?_
  rintro e W6 ⟨rfl, hb⟩
  replace HY := Shut.mk (HY.out.below hb)
  clear hb y0 y1 HH
  have y0 := (HY.out.kp.2 0 _ rfl).1
  have y1 := (HY.out.kp.2 1 _ rfl).1
  have x0 := (HY.out.bx.box.2 0 _ rfl).1
  have x1 := (HY.out.bx.box.2 1 _ rfl).1
  have lw : w.heap.size < W6.heap.size := HY.out.bx.box.1
  have lg : g < W6.heap.size := HY.out.kp.1
  generalize treeOk T = ok at *
  have hoo : (ok != ok) = false := by cases ok <;> rfl
  have HTT := Shut.mk (fun W (hW : Below W6.heap.size W6 W) => toTree_val (FV.out.below (HY.out.bx.bel.trans (hW.mono HY.out.bx.bel.size))) HF.out)
  have HEQ := Shut.mk (fun W (hW : Below W6.heap.size W6 W) u lo hi (hu : TAns W u T lo hi) => eqTree_val (HY.out.below hW).cp hu.see HF.out)
  unfold TrPost at HTT
  go_wp2_with fail
  go_region_held3 (fun w' => w'.cell? ⟨w.heap.size, 0, none⟩ = some (.slice a n cap) ∧ w'.cell? ⟨w.heap.size, 1, none⟩ = some (.int .i64 nx) ∧ w'.cell? ⟨g, 0, none⟩ = some (.slice c m cc) ∧ w'.cell? ⟨g, 1, none⟩ = some (.int .i64 nx))
    (first | go_keep | (refine ⟨?_, ?_, ?_, ?_⟩ <;> first | (rw [hb10.cell (Nat.lt_of_lt_of_le lw hb9.size), hb9.cell (by exact lw)]; simp [*]; done) | (rw [hb10.cell (Nat.lt_of_lt_of_le lg hb9.size), hb9.cell (by exact lg)]; simp [*]; done) | (rw [hb9.cell (by exact lw)]; simp [*]; done) | (rw [hb9.cell (by exact lg)]; simp [*]; done)))
    (first
      | (go_at_call 27; refine (HTT.out _ (by first | exact Below.refl _ _ | exact Below.drew (Below.refl _ _))).mono ?_; rintro e w9 ⟨u9, rfl, hA9, hb9⟩)
      | (go_at_call 22; refine (HEQ.out _ (by first | exact hb9 | exact (Below.drew (Below.refl _ _)).trans hb9) u9 _ _ hA9).mono ?_; rintro e w10 ⟨rfl, hb10⟩))
  all_goals
    have hb : Below W6.heap.size W6 w9 := by first | exact (Below.drew (Below.refl _ _)).trans hb9 | exact hb9
    have HZ := Shut.mk ((HY.out.below hb).below hb10)
    clear hb hb9 hb10 hA9
    go_wp2_with fail
    go_ret
    exact ⟨rfl, HZ.out.bx.bel⟩
set_option maxRecDepth 100000 in
set_option maxHeartbeats 4000000 in
theorem lawPathOf (h : ∀ (w : World) (v : Value) (T : TM) (lo hi : Nat) (k : Int), TSee w v T lo hi → NFit T → NInt T.nodes → (Lit.int .i64 k).wf = true → Calls Try.prog 32 #[v, .int .i64 k] w fun e w' => e = .returned (.string (pathX T k)) ∧ Below w.heap.size w w') {w : World} {v : Value} {T : TM} (hv : TSee w v T 0 w.heap.size) (lT : NOk T.nodes) (lI : NInt T.nodes) {k : Int} (lk : (Lit.int .i64 k).wf = true) :
    Calls Try.prog 7 #[v, .int .i64 k] w fun e w' => e = .returned (.bool true) ∧ Below w.heap.size w w' := by
  have h' := hv
  obtain ⟨a, cap, rs, rfl, hr, hm⟩ := hv
  obtain ⟨n, hn⟩ : ∃ n, n = rs.length := ⟨_, rfl⟩
  rw [← hn] at h' ⊢
  obtain ⟨nodes, nx⟩ := T
  dsimp only at h' ⊢
  generalize hT : (⟨nodes, nx⟩ : TM) = T at *
  have HN : Shut (NOk T.nodes ∧ T.next = nx) := ⟨lT, by rw [← hT]⟩
  have FV := Shut.mk h'
  have HH := Shut.mk h
  have HI : Shut (NInt T.nodes ∧ (Lit.int .i64 k).wf = true) := ⟨lI, lk⟩
  clear h h' hm hr hn hT lT lI lk
  go_enter Try.func7, Try.ntmps7
  go_upto_region 1 with fail
  refine wp_shade (fun W => BX w W a n cap nx) (BX.new w a n cap nx 40) ?_
  intro W hg
  have HG := Shut.mk hg
  have x0 := (hg.box.2 0 _ rfl).1
  have x1 := (hg.box.2 1 _ rfl).1
  clear hg
  go_wp2_with fail
  refine (szTree_val 1048576 (FV.out.below HG.out.bel) HN.out.1 (by omega) (by omega)).mono ?_
  rintro e w1 ⟨r0, rfl, _, q1, hb⟩
  replace HG := Shut.mk (HG.out.below hb)
  clear hb x0 x1
  by_cases r0n : r0 < 0
  case pos =>
    clear q1
    go_wp2_with fail
    go_ret
    exact ⟨rfl, HG.out.bel⟩
  have hr := q1 (by omega)
  have HF : Shut (NFit T) := ⟨by unfold NFit; omega⟩
  clear q1 hr
  have x0 := (HG.out.box.2 0 _ rfl).1
  have x1 := (HG.out.box.2 1 _ rfl).1
  go_wp2_with fail
  refine (toTree_val (FV.out.below HG.out.bel) HF.out).mono ?_
  rintro e w2 ⟨u1, rfl, hA, hb⟩
  have HA := Shut.mk hA
  replace HG := Shut.mk (HG.out.below hb)
  clear hA hb x0 x1
  have x0 := (HG.out.box.2 0 _ rfl).1
  have x1 := (HG.out.box.2 1 _ rfl).1
  go_wp2_with fail
  refine (specPathOf k HA.out.see HF.out).mono ?_
  rintro e w3 ⟨rfl, hb⟩
  replace HG := Shut.mk (HG.out.below hb)
  clear hb x0 x1 HA
  have x0 := (HG.out.box.2 0 _ rfl).1
  have x1 := (HG.out.box.2 1 _ rfl).1
  go_wp2_with fail
  refine (toTree_val (FV.out.below HG.out.bel) HF.out).mono ?_
  rintro e w4 ⟨u2, rfl, hA, hb⟩
  have hz3 := HG.out.bel.size
  replace HG := Shut.mk (HG.out.below hb)
  obtain ⟨c, cc, ts, rfl, ht, _, _⟩ := id hA
  obtain ⟨m, hm⟩ : ∃ m, m = ts.length := ⟨_, rfl⟩
  rw [← hm, HN.out.2] at hA ⊢
  have HY : Shut (BY w (w4.alloc (.cells #[.slice c m cc, .int .i64 nx] 26)) a n cap nx w4.heap.size c m cc T) := ⟨HG.out.below ((Below.refl _ _).alloc (Nat.le_refl _) _), wcells_new w4 #[.slice c m cc, .int .i64 nx] 26, (hA.see.below ((Below.refl _ _).alloc (Nat.le_refl _) _)).wide hz3 (Nat.le_refl _)⟩
  obtain ⟨g, hg⟩ : ∃ g, g = w4.heap.size := ⟨_, rfl⟩
  rw [← hg] at HY
  clear hA hb ht hm x0 x1
  go_upto_region 7 with fail
  rw [← hg]
  refine wp_shade (fun W => BY w W a n cap nx g c m cc T) HY.out ?_
  clear HY HG hg hz3
  intro W5 hy
  have HY := Shut.mk hy
  have y0 := (hy.kp.2 0 _ rfl).1
  have y1 := (hy.kp.2 1 _ rfl).1
  clear hy
  go_wp2_with fail
  refine (HH.out _ _ T _ _ k HY.out.cp HF.out HI.out.1 HI.out.2).mono ?_
  rintro e W6 ⟨rfl, hb⟩
  replace HY := Shut.mk (HY.out.below hb)
  clear hb y0 y1 HH
  have y0 := (HY.out.kp.2 0 _ rfl).1
  have y1 := (HY.out.kp.2 1 _ rfl).1
  have x0 := (HY.out.bx.box.2 0 _ rfl).1
  have x1 := (HY.out.bx.box.2 1 _ rfl).1
  have lw : w.heap.size < W6.heap.size := HY.out.bx.box.1
  have lg : g < W6.heap.size := HY.out.kp.1
  generalize pathX T k = ok at *
  have hoo : (ok.toList != ok.toList) = false := by simp
  have HTT := Shut.mk (fun W (hW : Below W6.heap.size W6 W) => toTree_val (FV.out.below (HY.out.bx.bel.trans (hW.mono HY.out.bx.bel.size))) HF.out)
  have HEQ := Shut.mk (fun W (hW : Below W6.heap.size W6 W) u lo hi (hu : TAns W u T lo hi) => eqTree_val (HY.out.below hW).cp hu.see HF.out)
  unfold TrPost at HTT
  go_wp2_with fail
  go_region_held3 (fun w' => w'.cell? ⟨w.heap.size, 0, none⟩ = some (.slice a n cap) ∧ w'.cell? ⟨w.heap.size, 1, none⟩ = some (.int .i64 nx) ∧ w'.cell? ⟨g, 0, none⟩ = some (.slice c m cc) ∧ w'.cell? ⟨g, 1, none⟩ = some (.int .i64 nx))
    (first | go_keep | (refine ⟨?_, ?_, ?_, ?_⟩ <;> first | (rw [hb10.cell (Nat.lt_of_lt_of_le lw hb9.size), hb9.cell (by exact lw)]; simp [*]; done) | (rw [hb10.cell (Nat.lt_of_lt_of_le lg hb9.size), hb9.cell (by exact lg)]; simp [*]; done) | (rw [hb9.cell (by exact lw)]; simp [*]; done) | (rw [hb9.cell (by exact lg)]; simp [*]; done)))
    (first
      | (go_at_call 27; refine (HTT.out _ (by first | exact Below.refl _ _ | exact Below.drew (Below.refl _ _))).mono ?_; rintro e w9 ⟨u9, rfl, hA9, hb9⟩)
      | (go_at_call 22; refine (HEQ.out _ (by first | exact hb9 | exact (Below.drew (Below.refl _ _)).trans hb9) u9 _ _ hA9).mono ?_; rintro e w10 ⟨rfl, hb10⟩))
  all_goals
    have hb : Below W6.heap.size W6 w9 := by first | exact (Below.drew (Below.refl _ _)).trans hb9 | exact hb9
    have HZ := Shut.mk ((HY.out.below hb).below hb10)
    clear hb hb9 hb10 hA9
    go_wp2_with fail
    go_ret
    exact ⟨rfl, HZ.out.bx.bel⟩
set_option maxRecDepth 100000 in
set_option maxHeartbeats 4000000 in
theorem lawSchemaAt (h : ∀ (w : World) (v : Value) (T : TM) (lo hi : Nat) (k : Int), TSee w v T lo hi → NFit T → NInt T.nodes → (Lit.int .i64 k).wf = true → Calls Try.prog 16 #[v, .int .i64 k] w fun e w' => e = .returned (.int .i64 (schemaAtX T k)) ∧ Below w.heap.size w w') {w : World} {v : Value} {T : TM} (hv : TSee w v T 0 w.heap.size) (lT : NOk T.nodes) (lI : NInt T.nodes) {k : Int} (lk : (Lit.int .i64 k).wf = true) :
    Calls Try.prog 10 #[v, .int .i64 k] w fun e w' => e = .returned (.bool true) ∧ Below w.heap.size w w' := by
  have h' := hv
  obtain ⟨a, cap, rs, rfl, hr, hm⟩ := hv
  obtain ⟨n, hn⟩ : ∃ n, n = rs.length := ⟨_, rfl⟩
  rw [← hn] at h' ⊢
  obtain ⟨nodes, nx⟩ := T
  dsimp only at h' ⊢
  generalize hT : (⟨nodes, nx⟩ : TM) = T at *
  have HN : Shut (NOk T.nodes ∧ T.next = nx) := ⟨lT, by rw [← hT]⟩
  have FV := Shut.mk h'
  have HH := Shut.mk h
  have HI : Shut (NInt T.nodes ∧ (Lit.int .i64 k).wf = true) := ⟨lI, lk⟩
  clear h h' hm hr hn hT lT lI lk
  go_enter Try.func10, Try.ntmps10
  go_upto_region 1 with fail
  refine wp_shade (fun W => BX w W a n cap nx) (BX.new w a n cap nx 40) ?_
  intro W hg
  have HG := Shut.mk hg
  have x0 := (hg.box.2 0 _ rfl).1
  have x1 := (hg.box.2 1 _ rfl).1
  clear hg
  go_wp2_with fail
  refine (szTree_val 1048576 (FV.out.below HG.out.bel) HN.out.1 (by omega) (by omega)).mono ?_
  rintro e w1 ⟨r0, rfl, _, q1, hb⟩
  replace HG := Shut.mk (HG.out.below hb)
  clear hb x0 x1
  by_cases r0n : r0 < 0
  case pos =>
    clear q1
    go_wp2_with fail
    go_ret
    exact ⟨rfl, HG.out.bel⟩
  have hr := q1 (by omega)
  have HF : Shut (NFit T) := ⟨by unfold NFit; omega⟩
  clear q1 hr
  have x0 := (HG.out.box.2 0 _ rfl).1
  have x1 := (HG.out.box.2 1 _ rfl).1
  go_wp2_with fail
  refine (toTree_val (FV.out.below HG.out.bel) HF.out).mono ?_
  rintro e w2 ⟨u1, rfl, hA, hb⟩
  have HA := Shut.mk hA
  replace HG := Shut.mk (HG.out.below hb)
  clear hA hb x0 x1
  have x0 := (HG.out.box.2 0 _ rfl).1
  have x1 := (HG.out.box.2 1 _ rfl).1
  go_wp2_with fail
  refine (specSchemaAt k HA.out.see HF.out).mono ?_
  rintro e w3 ⟨rfl, hb⟩
  replace HG := Shut.mk (HG.out.below hb)
  clear hb x0 x1 HA
  have x0 := (HG.out.box.2 0 _ rfl).1
  have x1 := (HG.out.box.2 1 _ rfl).1
  go_wp2_with fail
  refine (toTree_val (FV.out.below HG.out.bel) HF.out).mono ?_
  rintro e w4 ⟨u2, rfl, hA, hb⟩
  have hz3 := HG.out.bel.size
  replace HG := Shut.mk (HG.out.below hb)
  obtain ⟨c, cc, ts, rfl, ht, _, _⟩ := id hA
  obtain ⟨m, hm⟩ : ∃ m, m = ts.length := ⟨_, rfl⟩
  rw [← hm, HN.out.2] at hA ⊢
  have HY : Shut (BY w (w4.alloc (.cells #[.slice c m cc, .int .i64 nx] 26)) a n cap nx w4.heap.size c m cc T) := ⟨HG.out.below ((Below.refl _ _).alloc (Nat.le_refl _) _), wcells_new w4 #[.slice c m cc, .int .i64 nx] 26, (hA.see.below ((Below.refl _ _).alloc (Nat.le_refl _) _)).wide hz3 (Nat.le_refl _)⟩
  obtain ⟨g, hg⟩ : ∃ g, g = w4.heap.size := ⟨_, rfl⟩
  rw [← hg] at HY
  clear hA hb ht hm x0 x1
  go_upto_region 7 with fail
  rw [← hg]
  refine wp_shade (fun W => BY w W a n cap nx g c m cc T) HY.out ?_
  clear HY HG hg hz3
  intro W5 hy
  have HY := Shut.mk hy
  have y0 := (hy.kp.2 0 _ rfl).1
  have y1 := (hy.kp.2 1 _ rfl).1
  clear hy
  go_wp2_with fail
  refine (HH.out _ _ T _ _ k HY.out.cp HF.out HI.out.1 HI.out.2).mono ?_
  rintro e W6 ⟨rfl, hb⟩
  replace HY := Shut.mk (HY.out.below hb)
  clear hb y0 y1 HH
  have y0 := (HY.out.kp.2 0 _ rfl).1
  have y1 := (HY.out.kp.2 1 _ rfl).1
  have x0 := (HY.out.bx.box.2 0 _ rfl).1
  have x1 := (HY.out.bx.box.2 1 _ rfl).1
  have lw : w.heap.size < W6.heap.size := HY.out.bx.box.1
  have lg : g < W6.heap.size := HY.out.kp.1
  generalize schemaAtX T k = ok at *
  have hoo : (ok != ok) = false := by simp
  have HTT := Shut.mk (fun W (hW : Below W6.heap.size W6 W) => toTree_val (FV.out.below (HY.out.bx.bel.trans (hW.mono HY.out.bx.bel.size))) HF.out)
  have HEQ := Shut.mk (fun W (hW : Below W6.heap.size W6 W) u lo hi (hu : TAns W u T lo hi) => eqTree_val (HY.out.below hW).cp hu.see HF.out)
  unfold TrPost at HTT
  go_wp2_with fail
  go_region_held3 (fun w' => w'.cell? ⟨w.heap.size, 0, none⟩ = some (.slice a n cap) ∧ w'.cell? ⟨w.heap.size, 1, none⟩ = some (.int .i64 nx) ∧ w'.cell? ⟨g, 0, none⟩ = some (.slice c m cc) ∧ w'.cell? ⟨g, 1, none⟩ = some (.int .i64 nx))
    (first | go_keep | (refine ⟨?_, ?_, ?_, ?_⟩ <;> first | (rw [hb10.cell (Nat.lt_of_lt_of_le lw hb9.size), hb9.cell (by exact lw)]; simp [*]; done) | (rw [hb10.cell (Nat.lt_of_lt_of_le lg hb9.size), hb9.cell (by exact lg)]; simp [*]; done) | (rw [hb9.cell (by exact lw)]; simp [*]; done) | (rw [hb9.cell (by exact lg)]; simp [*]; done)))
    (first
      | (go_at_call 27; refine (HTT.out _ (by first | exact Below.refl _ _ | exact Below.drew (Below.refl _ _))).mono ?_; rintro e w9 ⟨u9, rfl, hA9, hb9⟩)
      | (go_at_call 22; refine (HEQ.out _ (by first | exact hb9 | exact (Below.drew (Below.refl _ _)).trans hb9) u9 _ _ hA9).mono ?_; rintro e w10 ⟨rfl, hb10⟩))
  all_goals
    have hb : Below W6.heap.size W6 w9 := by first | exact (Below.drew (Below.refl _ _)).trans hb9 | exact hb9
    have HZ := Shut.mk ((HY.out.below hb).below hb10)
    clear hb hb9 hb10 hA9
    go_wp2_with fail
    go_ret
    exact ⟨rfl, HZ.out.bx.bel⟩
set_option maxRecDepth 100000 in
set_option maxHeartbeats 4000000 in
theorem lawUsedBelow (h : ∀ (w : World) (v : Value) (T : TM) (lo hi : Nat) (k : Int), TSee w v T lo hi → NFit T → NInt T.nodes → (Lit.int .i64 k).wf = true → Calls Try.prog 15 #[v, .int .i64 k] w fun e w' => e = .returned (.int .i64 (usedX T k)) ∧ Below w.heap.size w w') {w : World} {v : Value} {T : TM} (hv : TSee w v T 0 w.heap.size) (lT : NOk T.nodes) (lI : NInt T.nodes) {k : Int} (lk : (Lit.int .i64 k).wf = true) :
    Calls Try.prog 11 #[v, .int .i64 k] w fun e w' => e = .returned (.bool true) ∧ Below w.heap.size w w' := by
  have h' := hv
  obtain ⟨a, cap, rs, rfl, hr, hm⟩ := hv
  obtain ⟨n, hn⟩ : ∃ n, n = rs.length := ⟨_, rfl⟩
  rw [← hn] at h' ⊢
  obtain ⟨nodes, nx⟩ := T
  dsimp only at h' ⊢
  generalize hT : (⟨nodes, nx⟩ : TM) = T at *
  have HN : Shut (NOk T.nodes ∧ T.next = nx) := ⟨lT, by rw [← hT]⟩
  have FV := Shut.mk h'
  have HH := Shut.mk h
  have HI : Shut (NInt T.nodes ∧ (Lit.int .i64 k).wf = true) := ⟨lI, lk⟩
  clear h h' hm hr hn hT lT lI lk
  go_enter Try.func11, Try.ntmps11
  go_upto_region 1 with fail
  refine wp_shade (fun W => BX w W a n cap nx) (BX.new w a n cap nx 40) ?_
  intro W hg
  have HG := Shut.mk hg
  have x0 := (hg.box.2 0 _ rfl).1
  have x1 := (hg.box.2 1 _ rfl).1
  clear hg
  go_wp2_with fail
  refine (szTree_val 1048576 (FV.out.below HG.out.bel) HN.out.1 (by omega) (by omega)).mono ?_
  rintro e w1 ⟨r0, rfl, _, q1, hb⟩
  replace HG := Shut.mk (HG.out.below hb)
  clear hb x0 x1
  by_cases r0n : r0 < 0
  case pos =>
    clear q1
    go_wp2_with fail
    go_ret
    exact ⟨rfl, HG.out.bel⟩
  have hr := q1 (by omega)
  have HF : Shut (NFit T) := ⟨by unfold NFit; omega⟩
  clear q1 hr
  have x0 := (HG.out.box.2 0 _ rfl).1
  have x1 := (HG.out.box.2 1 _ rfl).1
  go_wp2_with fail
  refine (toTree_val (FV.out.below HG.out.bel) HF.out).mono ?_
  rintro e w2 ⟨u1, rfl, hA, hb⟩
  have HA := Shut.mk hA
  replace HG := Shut.mk (HG.out.below hb)
  clear hA hb x0 x1
  have x0 := (HG.out.box.2 0 _ rfl).1
  have x1 := (HG.out.box.2 1 _ rfl).1
  go_wp2_with fail
  refine (specUsedBelow k HA.out.see HF.out).mono ?_
  rintro e w3 ⟨rfl, hb⟩
  replace HG := Shut.mk (HG.out.below hb)
  clear hb x0 x1 HA
  have x0 := (HG.out.box.2 0 _ rfl).1
  have x1 := (HG.out.box.2 1 _ rfl).1
  go_wp2_with fail
  refine (toTree_val (FV.out.below HG.out.bel) HF.out).mono ?_
  rintro e w4 ⟨u2, rfl, hA, hb⟩
  have hz3 := HG.out.bel.size
  replace HG := Shut.mk (HG.out.below hb)
  obtain ⟨c, cc, ts, rfl, ht, _, _⟩ := id hA
  obtain ⟨m, hm⟩ : ∃ m, m = ts.length := ⟨_, rfl⟩
  rw [← hm, HN.out.2] at hA ⊢
  have HY : Shut (BY w (w4.alloc (.cells #[.slice c m cc, .int .i64 nx] 26)) a n cap nx w4.heap.size c m cc T) := ⟨HG.out.below ((Below.refl _ _).alloc (Nat.le_refl _) _), wcells_new w4 #[.slice c m cc, .int .i64 nx] 26, (hA.see.below ((Below.refl _ _).alloc (Nat.le_refl _) _)).wide hz3 (Nat.le_refl _)⟩
  obtain ⟨g, hg⟩ : ∃ g, g = w4.heap.size := ⟨_, rfl⟩
  rw [← hg] at HY
  clear hA hb ht hm x0 x1
  go_upto_region 7 with fail
  rw [← hg]
  refine wp_shade (fun W => BY w W a n cap nx g c m cc T) HY.out ?_
  clear HY HG hg hz3
  intro W5 hy
  have HY := Shut.mk hy
  have y0 := (hy.kp.2 0 _ rfl).1
  have y1 := (hy.kp.2 1 _ rfl).1
  clear hy
  go_wp2_with fail
  refine (HH.out _ _ T _ _ k HY.out.cp HF.out HI.out.1 HI.out.2).mono ?_
  rintro e W6 ⟨rfl, hb⟩
  replace HY := Shut.mk (HY.out.below hb)
  clear hb y0 y1 HH
  have y0 := (HY.out.kp.2 0 _ rfl).1
  have y1 := (HY.out.kp.2 1 _ rfl).1
  have x0 := (HY.out.bx.box.2 0 _ rfl).1
  have x1 := (HY.out.bx.box.2 1 _ rfl).1
  have lw : w.heap.size < W6.heap.size := HY.out.bx.box.1
  have lg : g < W6.heap.size := HY.out.kp.1
  generalize usedX T k = ok at *
  have hoo : (ok != ok) = false := by simp
  have HTT := Shut.mk (fun W (hW : Below W6.heap.size W6 W) => toTree_val (FV.out.below (HY.out.bx.bel.trans (hW.mono HY.out.bx.bel.size))) HF.out)
  have HEQ := Shut.mk (fun W (hW : Below W6.heap.size W6 W) u lo hi (hu : TAns W u T lo hi) => eqTree_val (HY.out.below hW).cp hu.see HF.out)
  unfold TrPost at HTT
  go_wp2_with fail
  go_region_held3 (fun w' => w'.cell? ⟨w.heap.size, 0, none⟩ = some (.slice a n cap) ∧ w'.cell? ⟨w.heap.size, 1, none⟩ = some (.int .i64 nx) ∧ w'.cell? ⟨g, 0, none⟩ = some (.slice c m cc) ∧ w'.cell? ⟨g, 1, none⟩ = some (.int .i64 nx))
    (first | go_keep | (refine ⟨?_, ?_, ?_, ?_⟩ <;> first | (rw [hb10.cell (Nat.lt_of_lt_of_le lw hb9.size), hb9.cell (by exact lw)]; simp [*]; done) | (rw [hb10.cell (Nat.lt_of_lt_of_le lg hb9.size), hb9.cell (by exact lg)]; simp [*]; done) | (rw [hb9.cell (by exact lw)]; simp [*]; done) | (rw [hb9.cell (by exact lg)]; simp [*]; done)))
    (first
      | (go_at_call 27; refine (HTT.out _ (by first | exact Below.refl _ _ | exact Below.drew (Below.refl _ _))).mono ?_; rintro e w9 ⟨u9, rfl, hA9, hb9⟩)
      | (go_at_call 22; refine (HEQ.out _ (by first | exact hb9 | exact (Below.drew (Below.refl _ _)).trans hb9) u9 _ _ hA9).mono ?_; rintro e w10 ⟨rfl, hb10⟩))
  all_goals
    have hb : Below W6.heap.size W6 w9 := by first | exact (Below.drew (Below.refl _ _)).trans hb9 | exact hb9
    have HZ := Shut.mk ((HY.out.below hb).below hb10)
    clear hb hb9 hb10 hA9
    go_wp2_with fail
    go_ret
    exact ⟨rfl, HZ.out.bx.bel⟩
set_option maxRecDepth 100000 in
set_option maxHeartbeats 4000000 in
theorem lawRoomFor (h : ∀ (w : World) (v : Value) (T : TM) (lo hi : Nat) (k k2 : Int), TSee w v T lo hi → NFit T → NInt T.nodes → (Lit.int .i64 k).wf = true → Calls Try.prog 18 #[v, .int .i64 k, .int .i64 k2] w fun e w' => e = .returned (.bool (roomX T k k2)) ∧ Below w.heap.size w w') {w : World} {v : Value} {T : TM} (hv : TSee w v T 0 w.heap.size) (lT : NOk T.nodes) (lI : NInt T.nodes) {k k2 : Int} (lk : (Lit.int .i64 k).wf = true) :
    Calls Try.prog 12 #[v, .int .i64 k, .int .i64 k2] w fun e w' => e = .returned (.bool true) ∧ Below w.heap.size w w' := by
  have h' := hv
  obtain ⟨a, cap, rs, rfl, hr, hm⟩ := hv
  obtain ⟨n, hn⟩ : ∃ n, n = rs.length := ⟨_, rfl⟩
  rw [← hn] at h' ⊢
  obtain ⟨nodes, nx⟩ := T
  dsimp only at h' ⊢
  generalize hT : (⟨nodes, nx⟩ : TM) = T at *
  have HN : Shut (NOk T.nodes ∧ T.next = nx) := ⟨lT, by rw [← hT]⟩
  have FV := Shut.mk h'
  have HH := Shut.mk h
  have HI : Shut (NInt T.nodes ∧ (Lit.int .i64 k).wf = true) := ⟨lI, lk⟩
  clear h h' hm hr hn hT lT lI lk
  go_enter Try.func12, Try.ntmps12
  go_upto_region 1 with fail
  refine wp_shade (fun W => BX w W a n cap nx) (BX.new w a n cap nx 40) ?_
  intro W hg
  have HG := Shut.mk hg
  have x0 := (hg.box.2 0 _ rfl).1
  have x1 := (hg.box.2 1 _ rfl).1
  clear hg
  go_wp2_with fail
  refine (szTree_val 1048576 (FV.out.below HG.out.bel) HN.out.1 (by omega) (by omega)).mono ?_
  rintro e w1 ⟨r0, rfl, _, q1, hb⟩
  replace HG := Shut.mk (HG.out.below hb)
  clear hb x0 x1
  by_cases r0n : r0 < 0
  case pos =>
    clear q1
    go_wp2_with fail
    go_ret
    exact ⟨rfl, HG.out.bel⟩
  have hr := q1 (by omega)
  have HF : Shut (NFit T) := ⟨by unfold NFit; omega⟩
  clear q1 hr
  have x0 := (HG.out.box.2 0 _ rfl).1
  have x1 := (HG.out.box.2 1 _ rfl).1
  go_wp2_with fail
  refine (toTree_val (FV.out.below HG.out.bel) HF.out).mono ?_
  rintro e w2 ⟨u1, rfl, hA, hb⟩
  have HA := Shut.mk hA
  replace HG := Shut.mk (HG.out.below hb)
  clear hA hb x0 x1
  have x0 := (HG.out.box.2 0 _ rfl).1
  have x1 := (HG.out.box.2 1 _ rfl).1
  go_wp2_with fail
  refine (specRoomFor k k2 HA.out.see HF.out).mono ?_
  rintro e w3 ⟨rfl, hb⟩
  replace HG := Shut.mk (HG.out.below hb)
  clear hb x0 x1 HA
  have x0 := (HG.out.box.2 0 _ rfl).1
  have x1 := (HG.out.box.2 1 _ rfl).1
  go_wp2_with fail
  refine (toTree_val (FV.out.below HG.out.bel) HF.out).mono ?_
  rintro e w4 ⟨u2, rfl, hA, hb⟩
  have hz3 := HG.out.bel.size
  replace HG := Shut.mk (HG.out.below hb)
  obtain ⟨c, cc, ts, rfl, ht, _, _⟩ := id hA
  obtain ⟨m, hm⟩ : ∃ m, m = ts.length := ⟨_, rfl⟩
  rw [← hm, HN.out.2] at hA ⊢
  have HY : Shut (BY w (w4.alloc (.cells #[.slice c m cc, .int .i64 nx] 26)) a n cap nx w4.heap.size c m cc T) := ⟨HG.out.below ((Below.refl _ _).alloc (Nat.le_refl _) _), wcells_new w4 #[.slice c m cc, .int .i64 nx] 26, (hA.see.below ((Below.refl _ _).alloc (Nat.le_refl _) _)).wide hz3 (Nat.le_refl _)⟩
  obtain ⟨g, hg⟩ : ∃ g, g = w4.heap.size := ⟨_, rfl⟩
  rw [← hg] at HY
  clear hA hb ht hm x0 x1
  go_upto_region 7 with fail
  rw [← hg]
  refine wp_shade (fun W => BY w W a n cap nx g c m cc T) HY.out ?_
  clear HY HG hg hz3
  intro W5 hy
  have HY := Shut.mk hy
  have y0 := (hy.kp.2 0 _ rfl).1
  have y1 := (hy.kp.2 1 _ rfl).1
  clear hy
  go_wp2_with fail
  refine (HH.out _ _ T _ _ k k2 HY.out.cp HF.out HI.out.1 HI.out.2).mono ?_
  rintro e W6 ⟨rfl, hb⟩
  replace HY := Shut.mk (HY.out.below hb)
  clear hb y0 y1 HH
  have y0 := (HY.out.kp.2 0 _ rfl).1
  have y1 := (HY.out.kp.2 1 _ rfl).1
  have x0 := (HY.out.bx.box.2 0 _ rfl).1
  have x1 := (HY.out.bx.box.2 1 _ rfl).1
  have lw : w.heap.size < W6.heap.size := HY.out.bx.box.1
  have lg : g < W6.heap.size := HY.out.kp.1
  generalize roomX T k k2 = ok at *
  have hoo : (ok != ok) = false := by cases ok <;> rfl
  have HTT := Shut.mk (fun W (hW : Below W6.heap.size W6 W) => toTree_val (FV.out.below (HY.out.bx.bel.trans (hW.mono HY.out.bx.bel.size))) HF.out)
  have HEQ := Shut.mk (fun W (hW : Below W6.heap.size W6 W) u lo hi (hu : TAns W u T lo hi) => eqTree_val (HY.out.below hW).cp hu.see HF.out)
  unfold TrPost at HTT
  go_wp2_with fail
  go_region_held3 (fun w' => w'.cell? ⟨w.heap.size, 0, none⟩ = some (.slice a n cap) ∧ w'.cell? ⟨w.heap.size, 1, none⟩ = some (.int .i64 nx) ∧ w'.cell? ⟨g, 0, none⟩ = some (.slice c m cc) ∧ w'.cell? ⟨g, 1, none⟩ = some (.int .i64 nx))
    (first | go_keep | (refine ⟨?_, ?_, ?_, ?_⟩ <;> first | (rw [hb10.cell (Nat.lt_of_lt_of_le lw hb9.size), hb9.cell (by exact lw)]; simp [*]; done) | (rw [hb10.cell (Nat.lt_of_lt_of_le lg hb9.size), hb9.cell (by exact lg)]; simp [*]; done) | (rw [hb9.cell (by exact lw)]; simp [*]; done) | (rw [hb9.cell (by exact lg)]; simp [*]; done)))
    (first
      | (go_at_call 27; refine (HTT.out _ (by first | exact Below.refl _ _ | exact Below.drew (Below.refl _ _))).mono ?_; rintro e w9 ⟨u9, rfl, hA9, hb9⟩)
      | (go_at_call 22; refine (HEQ.out _ (by first | exact hb9 | exact (Below.drew (Below.refl _ _)).trans hb9) u9 _ _ hA9).mono ?_; rintro e w10 ⟨rfl, hb10⟩))
  all_goals
    have hb : Below W6.heap.size W6 w9 := by first | exact (Below.drew (Below.refl _ _)).trans hb9 | exact hb9
    have HZ := Shut.mk ((HY.out.below hb).below hb10)
    clear hb hb9 hb10 hA9
    go_wp2_with fail
    go_ret
    exact ⟨rfl, HZ.out.bx.bel⟩
end Go.Proofs.Ytfceohoegeebjaa
/- OpenM: Rows of numbers, of rows of numbers, and of texts, that came in. -/
namespace Go.Proofs.Ytfceohoegeebjaa
open Go.RowKit Go.Deep Go.ChangeShapes Go.WideShapes

theorem cells_int : Try.prog.cellsOf 3 = 1 := by kernel_rfl
theorem cells_ints : Try.prog.cellsOf 32 = 1 := by kernel_rfl
theorem cells_str : Try.prog.cellsOf 9 = 1 := by kernel_rfl
/-- A row out of its elements. -/
theorem rows_from {α : Type} [Inhabited α] {en : α → List Value} {sz : Nat} (hsz : ∀ x, (en x).length = sz) (hp0 : 0 < sz) {W : World} {ad : Addr} {len : Nat} {Pr : α → Prop}
    (each : ∀ i, i < len → ∃ f : α, (∀ r v, (en f)[r]? = some v → W.cell? (ad.add (i * sz + r)) = some v) ∧ Pr f) : ∃ xs : List α, xs.length = len ∧ CRow W (some ad) (xs.flatMap en) ∧ ∀ f ∈ xs, Pr f := by
  obtain ⟨F, hF⟩ := choose_lt each
  have hlen : ((List.range len).map F).length = len := by simp
  have hget : ∀ j (hj : j < ((List.range len).map F).length), ((List.range len).map F)[j] = F j := by intro j hj; simp
  refine ⟨(List.range len).map F, hlen, ?_, ?_⟩
  · intro hp
    rw [flat_len hsz, hlen] at hp
    have hl0 : 0 < len := Nat.pos_of_ne_zero fun e => by rw [e] at hp; simp at hp
    have h00 : ∃ v, (en (F 0))[0]? = some v := by
      have : 0 < (en (F 0)).length := by rw [hsz]; exact hp0
      exact ⟨_, List.getElem?_eq_getElem this⟩
    obtain ⟨v0, hv0⟩ := h00
    have c0 := (hF 0 hl0).1 0 v0 hv0
    have hs : ad.spot = none := by
      have := World.cell?_spot c0
      simpa [Addr.add] using this
    obtain ⟨b, off, spot⟩ := ad
    simp only at hs
    subst hs
    have hadd : ∀ i, (⟨b, off, none⟩ : Addr).add i = ⟨b, off + i, none⟩ := by intro i; cases i <;> simp [Addr.add]
    refine ⟨b, off, rfl, ?_, fun i v hv => ?_⟩
    · by_cases hb : b < W.heap.size
      · exact hb
      · unfold World.cell? at c0
        rw [hadd, Array.getElem?_eq_none (by simpa using hb)] at c0
        simp at c0
    · have hi : i < (((List.range len).map F).flatMap en).length := (List.getElem?_eq_some_iff.1 hv).1
      rw [flat_len hsz, hlen] at hi
      have hq : i / sz < len := Nat.div_lt_of_lt_mul (by rwa [Nat.mul_comm] at hi)
      have hr := Nat.mod_lt i hp0
      have ei : i = i / sz * sz + i % sz := by rw [Nat.mul_comm]; exact (Nat.div_add_mod i sz).symm
      have hj : i / sz < ((List.range len).map F).length := by rw [hlen]; exact hq
      have l1 := flat_get hsz ((List.range len).map F) (i / sz) hj (i % sz) hr
      rw [hget _ hj, ← ei] at l1
      have := (hF (i / sz) hq).1 (i % sz) v (by rw [← l1]; exact hv)
      rw [← ei, hadd] at this
      exact this
  · intro f hf
    obtain ⟨j, hj, rfl⟩ := List.mem_map.1 hf
    exact (hF j (by simpa using hj)).2
theorem ics_flats (xs : List Int) : ics xs = xs.flatMap fun x => [.int .i64 x] := by
  unfold ics
  induction xs with
  | nil => rfl
  | cons x xs ih => simp [ih]
set_option maxRecDepth 100000 in
theorem open_row {H : Type} {enc : TypeId × Value → H} {W : World} {base : Nat} {spare : Nat → Bool} {held : Bool} {fuel : Nat} {cs : List Value} {x : DataW H × List MemPlace}
    (h : DataW.trod enc Try.prog W base spare held fuel 32 cs = some x) : ∃ s : SR, cs = [srv s] ∧ CRow W s.loc (ics s.row) ∧ s.row.length ≤ 9223372036854775807 := by
  rcases open_slice Try.underlying32 h with ⟨rfl, _⟩ | ⟨ad, len, cap, m, n, D, Pl, rfl, hb, hl, hm, hmm, _, hx⟩
  · exact ⟨⟨none, [], 0⟩, rfl, fun h => by simp [ics] at h, by simp⟩
  · have hlm : len ≤ m := by rw [hmm]; split <;> omega
    have each : ∀ i, i < len → ∃ f : Int, (∀ r v, ([.int .i64 f] : List Value)[r]? = some v → W.cell? (ad.add (i * 1 + r)) = some v) ∧ True := by
      intro i hi
      obtain ⟨cs', h1, h2⟩ := hx i (by omega)
      rw [cells_int] at h1
      obtain ⟨_, hlen, hcell⟩ := World.cells?_some h1
      obtain ⟨q, e2, _, z2⟩ := DataW.trod_int Try.underlying3 h2
      have c0 := hcell 0 (by omega)
      rw [add_add] at c0
      subst e2
      refine ⟨q, fun r v hv => ?_, trivial⟩
      match r, hv with
      | 0, hv => simp at hv; subst hv; simpa using c0
    obtain ⟨xs, hxl, hrow, _⟩ := rows_from (en := fun x => [.int .i64 x]) (fun _ => rfl) (by decide) each
    rw [← ics_flats] at hrow
    exact ⟨⟨some ad, xs, cap⟩, by simp only [srv]; rw [hxl], hrow, by show xs.length ≤ _; rw [hxl]; unfold maxLen at hm; omega⟩
theorem svs_flat (ss : List SR) : svs ss = ss.flatMap fun s => [srv s] := by
  unfold svs
  induction ss with
  | nil => rfl
  | cons x xs ih => simp [ih]
end Go.Proofs.Ytfceohoegeebjaa
/- TreO: Trees that came in. -/
namespace Go.Proofs.Ytfceohoegeebjaa
open Go.RowKit Go.Deep Go.ChangeShapes Go.WideShapes

section
variable {P : Program} {w : World} {base : Nat} {spare : Nat → Bool} {held : Bool} {H : Type} {enc : TypeId × Value → H}
theorem trod_nine {t : TypeId} {f0 f1 f2 f3 f4 f5 f6 f7 f8 : Field} {fuel : Nat} {cs : List Value} {x : DataW H × List MemPlace} (ht : P.underlying t = some (.struct #[f0, f1, f2, f3, f4, f5, f6, f7, f8])) (h : DataW.trod enc P w base spare held fuel t cs = some x) :
    ∃ y0 y1 y2 y3 y4 y5 y6 y7 y8 n, cs.length = P.cellsOf t ∧
      DataW.trod enc P w base spare held n f0.type ((cs.drop f0.offset).take (P.cellsOf f0.type)) = some y0 ∧
      DataW.trod enc P w base spare held n f1.type ((cs.drop f1.offset).take (P.cellsOf f1.type)) = some y1 ∧
      DataW.trod enc P w base spare held n f2.type ((cs.drop f2.offset).take (P.cellsOf f2.type)) = some y2 ∧
      DataW.trod enc P w base spare held n f3.type ((cs.drop f3.offset).take (P.cellsOf f3.type)) = some y3 ∧
      DataW.trod enc P w base spare held n f4.type ((cs.drop f4.offset).take (P.cellsOf f4.type)) = some y4 ∧
      DataW.trod enc P w base spare held n f5.type ((cs.drop f5.offset).take (P.cellsOf f5.type)) = some y5 ∧
      DataW.trod enc P w base spare held n f6.type ((cs.drop f6.offset).take (P.cellsOf f6.type)) = some y6 ∧
      DataW.trod enc P w base spare held n f7.type ((cs.drop f7.offset).take (P.cellsOf f7.type)) = some y7 ∧
      DataW.trod enc P w base spare held n f8.type ((cs.drop f8.offset).take (P.cellsOf f8.type)) = some y8 := by
  obtain ⟨xs, n, _, rfl, hl, hlen, hf⟩ := DataW.trod_struct ht h
  match xs, hlen with
  | [y0, y1, y2, y3, y4, y5, y6, y7, y8], _ => exact ⟨y0, y1, y2, y3, y4, y5, y6, y7, y8, n, hl, by simpa using hf 0 f0 rfl, by simpa using hf 1 f1 rfl, by simpa using hf 2 f2 rfl, by simpa using hf 3 f3 rfl, by simpa using hf 4 f4 rfl, by simpa using hf 5 f5 rfl, by simpa using hf 6 f6 rfl, by simpa using hf 7 f7 rfl, by simpa using hf 8 f8 rfl⟩
end
theorem cells_piece : Try.prog.cellsOf 155 = 2 := by kernel_rfl
theorem cells_pieces : Try.prog.cellsOf 97 = 1 := by kernel_rfl
theorem cells_node : Try.prog.cellsOf 99 = 9 := by kernel_rfl
theorem cells_nodes : Try.prog.cellsOf 38 = 1 := by kernel_rfl
theorem cells_tree : Try.prog.cellsOf 40 = 2 := by kernel_rfl
theorem cells_bool : Try.prog.cellsOf 4 = 1 := by kernel_rfl
set_option maxRecDepth 100000 in
theorem open_pieces {H : Type} {enc : TypeId × Value → H} {W : World} {base : Nat} {spare : Nat → Bool} {held : Bool} {fuel : Nat} {cs : List Value} {x : DataW H × List MemPlace}
    (h : DataW.trod enc Try.prog W base spare held fuel 97 cs = some x) : ∃ a ps cap, cs = [.slice a (List.length (α := PM) ps) cap] ∧ CRow W a (pcs ps) ∧ ps.length ≤ 9223372036854775807 := by
  rcases open_slice Try.underlying97 h with ⟨rfl, _⟩ | ⟨ad, len, cap, m, n, D, Pl, rfl, hb, hl, hm, hmm, _, hx⟩
  · exact ⟨none, [], 0, rfl, fun h => by simp [pcs] at h, by simp⟩
  · have hlm : len ≤ m := by rw [hmm]; split <;> omega
    have each : ∀ i, i < len → ∃ f : PM, (∀ r v, (pcells f)[r]? = some v → W.cell? (ad.add (i * 2 + r)) = some v) ∧ True := by
      intro i hi
      obtain ⟨cs', h1, h2⟩ := hx i (by omega)
      rw [cells_piece] at h1
      obtain ⟨_, hlen, hcell⟩ := World.cells?_some h1
      obtain ⟨y0, y1, k, _, _, g0, g1⟩ := trod_struct2 Try.underlying155 h2
      match cs', hlen with
      | [v0, v1], _ =>
        simp only [cells_int, List.drop_zero, List.drop_succ_cons, List.take_succ_cons, List.take_zero] at g0 g1
        obtain ⟨q0, e0, _, _⟩ := DataW.trod_int Try.underlying3 g0
        obtain ⟨q1, e1, _, _⟩ := DataW.trod_int Try.underlying3 g1
        have c0 := hcell 0 (by omega)
        have c1 := hcell 1 (by omega)
        rw [add_add] at c0 c1
        simp only [List.cons.injEq, and_true] at e0 e1
        subst e0 e1
        refine ⟨⟨q0, q1⟩, fun r v hv => ?_, trivial⟩
        match r, hv with
        | 0, hv => simp [pcells] at hv; subst hv; simpa using c0
        | 1, hv => simp [pcells] at hv; subst hv; simpa using c1
    obtain ⟨xs, hxl, hrow, _⟩ := rows_from pcells_len (by decide) each
    exact ⟨some ad, xs, cap, by rw [hxl], hrow, by rw [hxl]; unfold maxLen at hm; omega⟩
set_option maxRecDepth 100000 in
set_option maxHeartbeats 1000000 in
theorem open_nodes {H : Type} {enc : TypeId × Value → H} {W : World} {base : Nat} {spare : Nat → Bool} {held : Bool} {fuel : Nat} {cs : List Value} {x : DataW H × List MemPlace}
    (h : DataW.trod enc Try.prog W base spare held fuel 38 cs = some x) : ∃ a rs cap, cs = [.slice a (List.length (α := NR) rs) cap] ∧ TR W a rs 0 W.heap.size ∧ NOk (nds rs) ∧ NInt (nds rs) := by
  rcases open_slice Try.underlying38 h with ⟨rfl, _⟩ | ⟨ad, len, cap, m, n, D, Pl, rfl, hb, hl, hm, hmm, _, hx⟩
  · exact ⟨none, [], 0, rfl, GR.nil _ _ _ _ _, by unfold NOk; simp [nds], by unfold NInt; simp [nds]⟩
  · have hlm : len ≤ m := by rw [hmm]; split <;> omega
    have each : ∀ i, i < len → ∃ f : NR, (∀ r v, (ncells f)[r]? = some v → W.cell? (ad.add (i * 9 + r)) = some v) ∧ CRow W f.loc (pcs f.nd.pieces) ∧ f.nd.name.size ≤ 9223372036854775807 ∧ (f.nd.pieces.length ≤ 9223372036854775807 ∧ (Lit.int .i64 f.nd.id).wf = true ∧ (Lit.int .i64 f.nd.parent).wf = true) := by
      intro i hi
      obtain ⟨cs', h1, h2⟩ := hx i (by omega)
      rw [cells_node] at h1
      obtain ⟨_, hlen, hcell⟩ := World.cells?_some h1
      obtain ⟨y0, y1, y2, y3, y4, y5, y6, y7, y8, k, _, g0, g1, g2, g3, g4, g5, g6, g7, g8⟩ := trod_nine Try.underlying99 h2
      match cs', hlen with
      | [v0, v1, v2, v3, v4, v5, v6, v7, v8], _ =>
        simp only [cells_int, cells_str, cells_bool, cells_pieces, List.drop_zero, List.drop_succ_cons, List.take_succ_cons, List.take_zero] at g0 g1 g2 g3 g4 g5 g6 g7 g8
        obtain ⟨q0, e0, _, f0⟩ := DataW.trod_int Try.underlying3 g0
        obtain ⟨q1, e1, _, f1⟩ := DataW.trod_int Try.underlying3 g1
        obtain ⟨q2, e2, _, z2⟩ := DataW.trod_string Try.underlying9 g2
        obtain ⟨q3, e3, _⟩ := DataW.trod_bool Try.underlying4 g3
        obtain ⟨q4, e4, _, _⟩ := DataW.trod_int Try.underlying3 g4
        obtain ⟨q5, e5, _, _⟩ := DataW.trod_int Try.underlying3 g5
        obtain ⟨q6, e6, _, _⟩ := DataW.trod_int Try.underlying3 g6
        obtain ⟨pa, ps, pc, e7, hpr, hpl⟩ := open_pieces g7
        obtain ⟨q8, e8, _, _⟩ := DataW.trod_int Try.underlying3 g8
        have c0 := hcell 0 (by omega)
        have c1 := hcell 1 (by omega)
        have c2 := hcell 2 (by omega)
        have c3 := hcell 3 (by omega)
        have c4 := hcell 4 (by omega)
        have c5 := hcell 5 (by omega)
        have c6 := hcell 6 (by omega)
        have c7 := hcell 7 (by omega)
        have c8 := hcell 8 (by omega)
        rw [add_add] at c0 c1 c2 c3 c4 c5 c6 c7 c8
        simp only [List.cons.injEq, and_true] at e0 e1 e2 e3 e4 e5 e6 e7 e8
        subst e0 e1 e2 e3 e4 e5 e6 e7 e8
        unfold maxLen at z2
        refine ⟨⟨⟨q0, q1, q2, q3, q4, q5, q6, ps, q8⟩, pa, pc⟩, fun r v hv => ?_, hpr, by simpa using z2, hpl, f0, f1⟩
        match r, hv with
        | 0, hv => simp [ncells] at hv; subst hv; simpa using c0
        | 1, hv => simp [ncells] at hv; subst hv; simpa using c1
        | 2, hv => simp [ncells] at hv; subst hv; simpa using c2
        | 3, hv => simp [ncells] at hv; subst hv; simpa using c3
        | 4, hv => simp [ncells] at hv; subst hv; simpa using c4
        | 5, hv => simp [ncells] at hv; subst hv; simpa using c5
        | 6, hv => simp [ncells] at hv; subst hv; simpa using c6
        | 7, hv => simp [ncells] at hv; subst hv; simpa using c7
        | 8, hv => simp [ncells] at hv; subst hv; simpa using c8
    obtain ⟨xs, hxl, hrow, hall⟩ := rows_from ncells_len (by decide) each
    refine ⟨some ad, xs, cap, by rw [hxl], ⟨RRow.of_crow hrow, fun r hr => RRow.of_crow (hall r hr).1⟩, ⟨by rw [nds_len, hxl]; unfold maxLen at hm; omega, fun n hn => ?_⟩, fun n hn => ?_⟩
    · obtain ⟨r, hr, rfl⟩ := List.mem_map.1 hn
      exact ⟨(hall r hr).2.1, (hall r hr).2.2.1⟩
    · obtain ⟨r, hr, rfl⟩ := List.mem_map.1 hn
      exact (hall r hr).2.2.2
set_option maxRecDepth 100000 in
theorem open_tree {H : Type} {enc : TypeId × Value → H} {W : World} {r : Reach} {b0 base : Nat} {spare : Nat → Bool} {held : Bool} {v : Value} {d : DataW H} {p : List MemPlace}
    (hv : Value.okWide Try.prog W r b0 40 v) (h : DataW.Trod enc Try.prog W base spare held 40 v d p) : ∃ T : TM, TSee W v T 0 W.heap.size ∧ NOk T.nodes ∧ NInt T.nodes := by
  obtain ⟨cs, rfl, hsz⟩ := okWide_struct Try.underlying40 hv
  rw [cells_tree] at hsz
  obtain ⟨fuel, hf⟩ := h
  obtain ⟨y0, y1, n, _, _, h0, h1⟩ := trod_struct2 Try.underlying40 hf
  obtain ⟨c0, c1, rfl⟩ : ∃ c0 c1, cs = #[c0, c1] := by
    match cs, hsz with
    | ⟨[c0, c1]⟩, _ => exact ⟨c0, c1, rfl⟩
  simp only [cells_nodes, cells_int, Value.cells, List.drop_zero, List.drop_succ_cons, List.take_succ_cons, List.take_zero] at h0 h1
  obtain ⟨a, rs, cap, e, g1, g2⟩ := open_nodes h0
  obtain ⟨q, e1, _, _⟩ := DataW.trod_int Try.underlying3 h1
  simp only [List.cons.injEq, and_true] at e e1
  subst e e1
  exact ⟨⟨nds rs, q⟩, ⟨a, cap, rs, rfl, rfl, g1⟩, g2⟩
end Go.Proofs.Ytfceohoegeebjaa
/- MapA: Maps of pointers and of maps: how their elements read, and their laws at the operations. -/
namespace Go.Proofs.Ytfceohoegeebjaa
open Go.RowKit Go.Maps

/-- How a pointer to a block reads. -/
def ptrE : Value → Option (DataW Unit × List MemPlace)
  | .pointer (some ⟨g, 0, none⟩) => some (.lit (.int .i64 g), [])
  | .pointer none => some (.nil, [])
  | _ => none
/-- How a map reads: as its block. -/
def mapE : Value → Option (DataW Unit × List MemPlace)
  | .map (some g) => some (.lit (.int .i64 g), [])
  | .map none => some (.nil, [])
  | _ => none
/-- A pointer, out of a block. -/
def ptrV : Option Nat → Value
  | some g => .pointer (some ⟨g, 0, none⟩)
  | none => .pointer none
/-- A map, out of a block. -/
def mapV : Option Nat → Value
  | some g => .map (some g)
  | none => .map none
theorem ptrE_form {v : Value} {y : DataW Unit × List MemPlace} (h : ptrE v = some y) : ∃ c, v = ptrV c := by
  unfold ptrE at h
  split at h
  · exact ⟨some _, rfl⟩
  · exact ⟨none, rfl⟩
  · cases h
theorem ptrE_some {v : Value} {g : Nat} {ps : List MemPlace} (h : ptrE v = some (.lit (.int .i64 g), ps)) : v = ptrV (some g) := by
  obtain ⟨c, rfl⟩ := ptrE_form h
  cases c with
  | none => simp [ptrV, ptrE] at h
  | some c => simp [ptrV, ptrE] at h; rw [show c = g by omega]
theorem ptrE_none {v : Value} {ps : List MemPlace} (h : ptrE v = some (.nil, ps)) : v = ptrV none := by
  obtain ⟨c, rfl⟩ := ptrE_form h
  cases c with
  | none => rfl
  | some c => simp [ptrV, ptrE] at h
theorem mapE_form {v : Value} {y : DataW Unit × List MemPlace} (h : mapE v = some y) : ∃ c, v = mapV c := by
  unfold mapE at h
  split at h
  · exact ⟨some _, rfl⟩
  · exact ⟨none, rfl⟩
  · cases h
theorem mapE_some {v : Value} {g : Nat} {ps : List MemPlace} (h : mapE v = some (.lit (.int .i64 g), ps)) : v = mapV (some g) := by
  obtain ⟨c, rfl⟩ := mapE_form h
  cases c with
  | none => simp [mapV, mapE] at h
  | some c => simp [mapV, mapE] at h; rw [show c = g by omega]
theorem mapE_none {v : Value} {ps : List MemPlace} (h : mapE v = some (.nil, ps)) : v = mapV none := by
  obtain ⟨c, rfl⟩ := mapE_form h
  cases c with
  | none => rfl
  | some c => simp [mapV, mapE] at h
/-- A name as a key. -/
abbrev ks (n : ByteArray) : Lit := .string n.data.toList
/-- A number as a key. -/
abbrev ki (x : Int) : Lit := .int .i64 x
theorem ks_inj {m n : ByteArray} (h : ks m = ks n) : m = n := ByteArray.ext (Array.toList_inj.1 (by simpa using h))
theorem ki_inj {m n : Int} (h : ki m = ki n) : m = n := by simpa using h
/-- What a map tells: of each key a block, or nothing. -/
def Tells (D : DataW Unit) (l : Lit) (o : Option Nat) : Prop := match o with
  | some g => ∀ z, D.atKey l z = .lit (.int .i64 g)
  | none => Maps.has D l = false
theorem Tells.at {D : DataW Unit} {l : Lit} {g : Nat} (h : Tells D l (some g)) : D.atKey l .nil = .lit (.int .i64 g) := h .nil
theorem Tells.no {D : DataW Unit} {l : Lit} (h : Tells D l none) : D.atKey l .nil = .nil := Maps.atKey_of_not_has h .nil
theorem Tells.has {D : DataW Unit} {l : Lit} {o : Option Nat} (h : Tells D l o) : Maps.has D l = o.isSome := by
  cases o with
  | some g => exact Maps.has_true_of_atKey h
  | none => exact h
theorem Tells.put_same {D : DataW Unit} {l : Lit} {g : Nat} (hm : Maps.IsMap D) (hk : WideAt.IsKeyLit l) : Tells (D.put l (.lit (.int .i64 g))) l (some g) := fun z => Maps.atKey_put_same hm hk _ z
theorem Tells.put_other {D : DataW Unit} {l l' : Lit} {o : Option Nat} {d : DataW Unit} (h : Tells D l o) (hne : l ≠ l') : Tells (D.put l' d) l o := by
  cases o with
  | some g => exact fun z => by rw [Maps.atKey_put_other hne]; exact h z
  | none => exact (Maps.has_put_other hne _).trans h
theorem own_tight' {w : World} {P : Program} {k : TypeId} {R : Value → Option (DataW Unit × List MemPlace)} {b n m : Nat} {D : DataW Unit} (h : w.ownsMap P k R b n D) (hm : Maps.size D ≤ m) : w.ownsMap P k R b m D := by
  obtain ⟨es, clock, hb, F, hs, hD⟩ := h
  refine ⟨es, clock, hb, F, ?_, hD⟩
  have : Maps.size D = es.size := by rw [hD]; simp [Maps.size, length_sorted]
  omega
theorem own_drewN {w : World} {P : Program} {k : TypeId} {R : Value → Option (DataW Unit × List MemPlace)} {b n : Nat} {D : DataW Unit} (h : w.ownsMap P k R b n D) (q : Nat) : (w.drewN q).ownsMap P k R b n D := h
theorem own_below {w w' : World} {P : Program} {k : TypeId} {R : Value → Option (DataW Unit × List MemPlace)} {b n : Nat} {D : DataW Unit} (h : w.ownsMap P k R b n D) (hb : Below w.heap.size w w') : w'.ownsMap P k R b n D :=
  h.kept (row := none) ⟨hb.os, hb.tape, hb.output, hb.size, fun k hk _ => hb.block k hk⟩ (by simp)
theorem own_turned {w w' : World} {P : Program} {k : TypeId} {R : Value → Option (DataW Unit × List MemPlace)} {b n c : Nat} {D : DataW Unit} (h : w.ownsMap P k R b n D) (ht : w.mapTurned w' c) (hne : b ≠ c) : w'.ownsMap P k R b n D :=
  h.kept ht.grown (by simpa using hne)
/-- Cells stay where a map is turned. -/
theorem wc_mapTurned {w w' : World} {b g : Nat} {L : List Value} (h : WCells w g L) (ht : w.mapTurned w' b) : WCells w' g L := by
  refine ⟨Nat.lt_of_lt_of_le h.1 ht.grown.size, fun i v hv => ?_⟩
  have h1 := h.2 i v hv
  have hne : g ≠ b := by
    rintro rfl
    obtain ⟨es, clock, _, _, hb, _⟩ := ht
    have := h1.1
    simp [World.cell?, hb] at this
  have hk := ht.grown.block g h.1 (by simpa using hne)
  constructor
  · have := h1.1
    simp only [World.cell?, hk] at this ⊢
    exact this
  · have := h1.2
    simp only [World.frozen?, hk] at this ⊢
    exact this
section
variable {P : Program} {w : World} {k e t : TypeId} {b n : Nat} {D : DataW Unit} {key : Value} {l : Lit} {o : Option Nat}
theorem look_ptr (K : Keyed P k) (ht : P.underlying t = some (.map k e)) (hz : ∀ w, (zeroValue e).run P w = .ok (.pointer none) w) (h : w.ownsMap P k ptrE b n D) (hkey : keyOf P k key = some l) (ho : Tells D l o) (q : Nat) :
    (Instr.lookup t (.map (some b)) key false).run P (w.drewN q) = .ok (ptrV o) (w.drewN q) := by
  obtain ⟨v, ps, hrun, hv⟩ := (own_drewN h q).lookup K ht (hz _) (zd := .nil) (zp := []) rfl hkey
  cases o with
  | some g => rw [ho.at] at hv; rw [hrun, ptrE_some hv]
  | none => rw [ho.no] at hv; rw [hrun, ptrE_none hv]
theorem look_map (K : Keyed P k) (ht : P.underlying t = some (.map k e)) (hz : ∀ w, (zeroValue e).run P w = .ok (.map none) w) (h : w.ownsMap P k mapE b n D) (hkey : keyOf P k key = some l) (ho : Tells D l o) (q : Nat) :
    (Instr.lookup t (.map (some b)) key false).run P (w.drewN q) = .ok (mapV o) (w.drewN q) := by
  obtain ⟨v, ps, hrun, hv⟩ := (own_drewN h q).lookup K ht (hz _) (zd := .nil) (zp := []) rfl hkey
  cases o with
  | some g => rw [ho.at] at hv; rw [hrun, mapE_some hv]
  | none => rw [ho.no] at hv; rw [hrun, mapE_none hv]
end
end Go.Proofs.Ytfceohoegeebjaa
/- LkP: Right trees, plain: where nodes are found, and the way up from each. Nothing of the program is read here. -/
namespace Go.Proofs.Ytfceohoegeebjaa

/-- The first node of an Id. -/
def fid (ns : List NM) (id : Int) : Option Nat := ns.findIdx? (fun n => n.id == id)
/-- The first node of a Parent and a Name. -/
def fnm (ns : List NM) (p : Int) (s : ByteArray) : Option Nat := ns.findIdx? (fun n => n.parent == p && decide (n.name = s))
theorem find_take {α : Type} (P : α → Bool) (xs : List α) (k : Nat) (h : k < xs.length) : (xs.take (k + 1)).findIdx? P = match (xs.take k).findIdx? P with
    | some i => some i
    | none => if P xs[k] = true then some k else none := by
  rw [List.take_succ_eq_append_getElem h, List.findIdx?_append]
  cases hf : (xs.take k).findIdx? P with
  | some i => simp
  | none =>
    simp only [List.findIdx?_cons, List.findIdx?_nil, Option.none_or]
    have : (xs.take k).length = k := by simp; omega
    by_cases hp : P xs[k] = true
    · simp [hp, this]
    · simp [hp]
theorem fid_lt {ns : List NM} {id : Int} {i : Nat} (h : fid ns id = some i) : ∃ hi : i < ns.length, ns[i].id = id := by
  obtain ⟨hi, h1, _⟩ := List.findIdx?_eq_some_iff_getElem.1 h
  exact ⟨hi, by simpa using h1⟩
theorem fid_none {ns : List NM} {id : Int} (h : fid ns id = none) : ∀ n ∈ ns, n.id ≠ id := fun n hn => by simpa using List.findIdx?_eq_none_iff.1 h n hn
theorem fid_first {ns : List NM} {id : Int} {i : Nat} (h : fid ns id = some i) : ∀ j, j < i → ∀ hj : j < ns.length, ns[j].id ≠ id := by
  obtain ⟨hi, h1, h2⟩ := List.findIdx?_eq_some_iff_getElem.1 h
  exact fun j hj hjl => by simpa using h2 j hj
theorem fid_of {ns : List NM} {i : Nat} (hi : i < ns.length) (h : ∀ j, j < i → ∀ hj : j < ns.length, ns[j].id ≠ ns[i].id) : fid ns ns[i].id = some i :=
  List.findIdx?_eq_some_iff_getElem.2 ⟨hi, by simp, fun j hj => by simpa using h j hj (by omega)⟩
theorem fnm_lt {ns : List NM} {p : Int} {s : ByteArray} {i : Nat} (h : fnm ns p s = some i) : ∃ hi : i < ns.length, ns[i].parent = p ∧ ns[i].name = s := by
  obtain ⟨hi, h1, _⟩ := List.findIdx?_eq_some_iff_getElem.1 h
  exact ⟨hi, by simpa using h1⟩
theorem fnm_none {ns : List NM} {p : Int} {s : ByteArray} (h : fnm ns p s = none) : ∀ n ∈ ns, n.parent = p → n.name ≠ s := fun n hn => by simpa using List.findIdx?_eq_none_iff.1 h n hn
theorem fnm_first {ns : List NM} {p : Int} {s : ByteArray} {i : Nat} (h : fnm ns p s = some i) : ∀ j, j < i → ∀ hj : j < ns.length, ns[j].parent = p → ns[j].name ≠ s := by
  obtain ⟨hi, h1, h2⟩ := List.findIdx?_eq_some_iff_getElem.1 h
  exact fun j hj hjl => by simpa using h2 j hj
theorem at_fid (ns : List NM) (id : Int) : atI ns id = match fid ns id with
    | some i => (i : Int)
    | none => -1 := rfl
/-- The way up from a node to the first one, and its steps. -/
inductive Ups (ns : List NM) : Nat → Nat → Prop
  | root : Ups ns 0 0
  | step {i k d : Nat} : i < ns.length → i ≠ 0 → fid ns (ns.getD i default).parent = some k → Ups ns k d → Ups ns i (d + 1)
/-- Ids that ascend from 1 on. -/
def Asc (ns : List NM) : Prop := (∀ i (hi : i < ns.length), 0 < i → (ns.getD (i - 1) default).id < ns[i].id) ∧ 0 < ns.length ∧ (ns.getD 0 default).id = 1 ∧ (ns.getD 0 default).parent = 0
theorem Asc.lt {ns : List NM} (h : Asc ns) : ∀ j (hj : j < ns.length) i, i < j → (ns.getD i default).id < ns[j].id := by
  intro j
  induction j with
  | zero => intro _ i hi; omega
  | succ j ih =>
    intro hj i hi
    have h1 := h.1 (j + 1) hj (by omega)
    simp only [Nat.add_sub_cancel] at h1
    rcases Nat.lt_or_ge i j with hl | hg
    · have h2 := ih (by omega) i hl
      have e : (ns.getD j default) = ns[j] := by simp [List.getD, (by omega : j < ns.length)]
      rw [e] at h1
      omega
    · obtain rfl : i = j := by omega
      exact h1
theorem getD_in {ns : List NM} {i : Nat} (hi : i < ns.length) : ns.getD i default = ns[i] := by simp [List.getD, hi]
theorem Asc.fid {ns : List NM} (h : Asc ns) {i : Nat} (hi : i < ns.length) : fid ns ns[i].id = some i :=
  fid_of hi fun j hj hjl => by have := h.lt i hi j hj; rw [getD_in hjl] at this; omega
theorem Asc.pos {ns : List NM} (h : Asc ns) {i : Nat} (hi : i < ns.length) : 1 ≤ ns[i].id := by
  rcases Nat.eq_zero_or_pos i with rfl | hp
  · have := h.2.2.1
    rw [getD_in hi] at this
    omega
  · have := h.lt i hi 0 hp
    rw [h.2.2.1] at this
    omega
theorem Asc.zero {ns : List NM} (h : Asc ns) : Go.Proofs.Ytfceohoegeebjaa.fid ns 0 = none := by
  cases hf : Go.Proofs.Ytfceohoegeebjaa.fid ns 0 with
  | none => rfl
  | some i =>
    obtain ⟨hi, e⟩ := fid_lt hf
    have := h.pos hi
    omega
theorem Asc.one {ns : List NM} (h : Asc ns) : Go.Proofs.Ytfceohoegeebjaa.fid ns 1 = some 0 := by
  have := h.fid h.2.1
  rw [← getD_in h.2.1, h.2.2.1] at this
  exact this
theorem climbs_ups {ns : List NM} (h : Asc ns) : ∀ (f : Nat) (id : Int) (i : Nat), climbs ns f id = true → Go.Proofs.Ytfceohoegeebjaa.fid ns id = some i → i ≠ 0 → ∃ d, d ≤ f ∧ Ups ns i d := by
  intro f
  induction f with
  | zero => intro id i hc; simp [climbs] at hc
  | succ f ih =>
    intro id i hc hi h0
    unfold climbs at hc
    unfold Go.Proofs.Ytfceohoegeebjaa.fid at hi
    rw [hi] at hc
    dsimp only at hc
    obtain ⟨hil, _⟩ := fid_lt (ns := ns) hi
    by_cases h1 : (ns.getD i default).parent = 1
    · exact ⟨1, by omega, Ups.step hil h0 (by rw [h1]; exact h.one) Ups.root⟩
    · rw [if_neg h1] at hc
      cases hk : Go.Proofs.Ytfceohoegeebjaa.fid ns (ns.getD i default).parent with
      | none =>
        cases f with
        | zero => simp [climbs] at hc
        | succ f =>
          unfold climbs at hc
          unfold Go.Proofs.Ytfceohoegeebjaa.fid at hk
          rw [hk] at hc
          cases hc
      | some k =>
        by_cases hk0 : k = 0
        · subst hk0
          have := fid_lt hk
          obtain ⟨hl, e⟩ := this
          rw [← getD_in hl, h.2.2.1] at e
          exact absurd e.symm h1
        · obtain ⟨d, hd, hu⟩ := ih _ k hc hk hk0
          exact ⟨d + 1, by omega, Ups.step hil h0 hk hu⟩
theorem ups_climbs {ns : List NM} (h : Asc ns) : ∀ (f i d : Nat), Ups ns i d → i ≠ 0 → d ≤ f → climbs ns f (ns.getD i default).id = true := by
  intro f
  induction f with
  | zero =>
    intro i d hu h0 hd
    cases hu with
    | root => exact absurd rfl h0
    | step => omega
  | succ f ih =>
    intro i d hu h0 hd
    cases hu with
    | root => exact absurd rfl h0
    | @step _ k d' hil _ hk hu' =>
      unfold climbs
      have e := h.fid hil
      rw [← getD_in hil] at e
      unfold Go.Proofs.Ytfceohoegeebjaa.fid at e
      rw [e]
      dsimp only
      split
      · rfl
      · rename_i hne
        obtain ⟨hkl, ek⟩ := fid_lt hk
        rw [← ek, ← getD_in hkl]
        refine ih k d' hu' (fun e0 => hne ?_) (by omega)
        subst e0
        rw [← ek, ← getD_in hkl]
        exact h.2.2.1
theorem Ups.lt {ns : List NM} (h : Asc ns) {i d : Nat} (hu : Ups ns i d) : i < ns.length := by
  cases hu with
  | root => exact h.2.1
  | step hl => exact hl
theorem Ups.det {ns : List NM} {i d e : Nat} (h : Ups ns i d) (h' : Ups ns i e) : d = e := by
  induction h generalizing e with
  | root =>
    cases h' with
    | root => rfl
    | step _ h0 => exact absurd rfl h0
  | step _ h0 hk _ ih =>
    cases h' with
    | root => exact absurd rfl h0
    | step _ _ hk' hu' =>
      rw [hk] at hk'
      cases hk'
      rw [ih hu']
end Go.Proofs.Ytfceohoegeebjaa
/- LkA: The links of a tree in memory: nodes behind pointers, by their Ids, and by their Parents and Names. -/
namespace Go.Proofs.Ytfceohoegeebjaa
open Go.RowKit Go.Maps

theorem keyI : Keyed Try.prog 3 := int_keyed Try.underlying3
theorem keyS : Keyed Try.prog 9 := string_keyed Try.underlying9
theorem zeroLp (w : World) : (zeroValue 61).run Try.prog w = .ok (.pointer none) w := by kernel_rfl
theorem zeroLm (w : World) : (zeroValue 81).run Try.prog w = .ok (.map none) w := by kernel_rfl
theorem key_int {x : Int} (h : (Lit.int .i64 x).wf = true) : keyOf Try.prog 3 (.int .i64 x) = some (ki x) := keyOf_int_mk Try.underlying3 h
theorem key_str {s : ByteArray} (h : s.size ≤ maxLen) : keyOf Try.prog 9 (.string s) = some (ks s) := Go.WideMaps.keyOf_string_mk Try.underlying9 h
theorem eqg_ptr (x y : Operand) (o : Option Nat) (W : World) : Sem.run Try.prog (eqGuard BinOp.eql 61 x y (ptrV o) (.pointer none)) W = .ok () W := by
  cases o <;> simp [ptrV, eqGuard, go_sem]
theorem eq_ptr (o : Option Nat) (W : World) : Sem.run Try.prog (binOp BinOp.eql 61 (ptrV o) (.pointer none)) W = .ok (.bool o.isNone) W := by
  cases o <;> simp [ptrV, go_sem]
theorem neg_ptr (x y : Operand) (o : Option Nat) (W : World) : Sem.run Try.prog (eqGuard BinOp.neq 61 x y (ptrV o) (.pointer none)) W = .ok () W := by
  cases o <;> simp [ptrV, eqGuard, go_sem]
theorem ne_ptr (o : Option Nat) (W : World) : Sem.run Try.prog (binOp BinOp.neq 61 (ptrV o) (.pointer none)) W = .ok (.bool o.isSome) W := by
  cases o <;> simp [ptrV, go_sem]
theorem eqg_map (x y : Operand) (o : Option Nat) (W : World) : Sem.run Try.prog (eqGuard BinOp.eql 81 x y (mapV o) (.map none)) W = .ok () W := by
  cases o <;> simp [mapV, eqGuard, go_sem]
theorem eq_map (o : Option Nat) (W : World) : Sem.run Try.prog (binOp BinOp.eql 81 (mapV o) (.map none)) W = .ok (.bool o.isNone) W := by
  cases o <;> kernel_rfl
/-- A node of the links: the node, and a pointer to the one above it. -/
def lcells (r : NR) (p : Value) : List Value := [.int .i64 r.nd.id, .int .i64 r.nd.parent, .string r.nd.name, .bool r.nd.dir, .int .i64 r.nd.schema, .int .i64 r.nd.quota, .int .i64 r.nd.len, .slice r.loc r.nd.pieces.length r.cap, .int .i64 r.nd.writer, p]
/-- Some node has this Parent. -/
def Par (ns : List NM) (p : Int) : Prop := ∃ n ∈ ns, n.parent = p
theorem par_fnm {ns : List NM} {p : Int} {s : ByteArray} {i : Nat} (h : fnm ns p s = some i) : Par ns p := by
  obtain ⟨hi, e, _⟩ := fnm_lt h
  exact ⟨_, List.getElem_mem hi, e⟩
/-- What the links hold. 'G': the nodes' blocks; 'C': the inner maps' blocks; 'A': of each node the one above it, where it is told already. -/
structure Lk (w : World) (B b1 b2 : Nat) (rs : List NR) (G : Nat → Nat) (C : Int → Nat) (A : Nat → Option Nat) : Prop where
  m1 : ∃ D, w.ownsMap Try.prog 3 ptrE b1 rs.length D ∧ ∀ id, Tells D (ki id) ((fid (nds rs) id).map G)
  m2 : ∃ D, w.ownsMap Try.prog 3 mapE b2 rs.length D ∧ ∀ p, (Par (nds rs) p → Tells D (ki p) (some (C p))) ∧ (¬ Par (nds rs) p → Tells D (ki p) none)
  m3 : ∀ p, Par (nds rs) p → B ≤ C p ∧ C p ≠ b1 ∧ C p ≠ b2 ∧ ∃ D, w.ownsMap Try.prog 9 ptrE (C p) rs.length D ∧ ∀ s, Tells D (ks s) ((fnm (nds rs) p s).map G)
  inj : ∀ p q, Par (nds rs) p → Par (nds rs) q → C p = C q → p = q
  cells : ∀ i (hi : i < rs.length), WCells w (G i) (lcells rs[i] (ptrV ((A i).map G))) ∧ B ≤ G i
  one : ∀ i j, i < rs.length → j < rs.length → G i = G j → i = j
  lo : B ≤ b1 ∧ B ≤ b2 ∧ b1 ≠ b2
/-- The cells of all blocks stay. -/
def Kept (w w' : World) : Prop := ∀ g L, WCells w g L → WCells w' g L
theorem Kept.refl (w : World) : Kept w w := fun _ _ h => h
theorem Kept.trans {a b c : World} (h : Kept a b) (h' : Kept b c) : Kept a c := fun g L hg => h' g L (h g L hg)
theorem Kept.below {w w' : World} (h : Below w.heap.size w w') : Kept w w' := fun _ _ hg => hg.grow h
theorem Kept.turned {w w' : World} {b : Nat} (h : w.mapTurned w' b) : Kept w w' := fun _ _ hg => wc_mapTurned hg h
theorem Lk.below {w w' : World} {B b1 b2 : Nat} {rs : List NR} {G : Nat → Nat} {C : Int → Nat} {A : Nat → Option Nat} (h : Lk w B b1 b2 rs G C A) (hb : Below w.heap.size w w') : Lk w' B b1 b2 rs G C A := by
  obtain ⟨⟨D1, o1, t1⟩, ⟨D2, o2, t2⟩, m3, inj, cells, one, lo⟩ := h
  refine ⟨⟨D1, own_below o1 hb, t1⟩, ⟨D2, own_below o2 hb, t2⟩, fun p hp => ?_, inj, fun i hi => ⟨(cells i hi).1.grow hb, (cells i hi).2⟩, one, lo⟩
  obtain ⟨q1, q2, q3, D, o3, t3⟩ := m3 p hp
  exact ⟨q1, q2, q3, D, own_below o3 hb, t3⟩
theorem Lk.lt {w : World} {B b1 b2 : Nat} {rs : List NR} {G : Nat → Nat} {C : Int → Nat} {A : Nat → Option Nat} (h : Lk w B b1 b2 rs G C A) : b1 < w.heap.size ∧ b2 < w.heap.size ∧ (∀ i, i < rs.length → G i < w.heap.size) ∧ ∀ p, Par (nds rs) p → C p < w.heap.size := by
  obtain ⟨⟨D1, o1, _⟩, ⟨D2, o2, _⟩, m3, inj, cells, one, lo⟩ := h
  refine ⟨o1.lt, o2.lt, fun i hi => (cells i hi).1.1, fun p hp => ?_⟩
  obtain ⟨_, _, _, D, o3, _⟩ := m3 p hp
  exact o3.lt
/-- Nothing yet. -/
theorem Lk.start {w : World} {B b1 b2 : Nat} {G : Nat → Nat} {C : Int → Nat} {A : Nat → Option Nat} (h1 : w.ownsMap Try.prog 3 ptrE b1 0 (.map [])) (h2 : w.ownsMap Try.prog 3 mapE b2 0 (.map [])) (lo : B ≤ b1 ∧ B ≤ b2 ∧ b1 ≠ b2) : Lk w B b1 b2 [] G C A :=
  ⟨⟨_, h1, fun _ => rfl⟩, ⟨_, h2, fun _ => ⟨fun ⟨_, h, _⟩ => by simp [nds] at h, fun _ => rfl⟩⟩, fun _ ⟨_, h, _⟩ => by simp [nds] at h, fun _ _ ⟨_, h, _⟩ => by simp [nds] at h, fun i hi => absurd hi (by simp), fun i j hi => absurd hi (by simp), lo⟩
/-- The place of a new node. -/
def Gn (G : Nat → Nat) (n g : Nat) : Nat → Nat := fun i => if i = n then g else G i
theorem Gn_old {G : Nat → Nat} {n g i : Nat} (h : i < n) : Gn G n g i = G i := if_neg (by omega)
theorem Gn_new {G : Nat → Nat} {n g : Nat} : Gn G n g n = g := if_pos rfl
theorem find_snoc {α : Type} (P : α → Bool) (xs : List α) (x : α) : (xs ++ [x]).findIdx? P = match xs.findIdx? P with
    | some i => some i
    | none => if P x = true then some xs.length else none := by
  rw [List.findIdx?_append]
  cases hf : xs.findIdx? P with
  | some i => simp
  | none =>
    simp only [List.findIdx?_cons, List.findIdx?_nil, Option.none_or]
    by_cases hp : P x = true
    · simp [hp]
    · simp [hp]
theorem fid_snoc {ns : List NM} {n : NM} {id : Int} : fid (ns ++ [n]) id = match fid ns id with
    | some i => some i
    | none => if n.id = id then some ns.length else none := by
  unfold fid
  rw [find_snoc]
  cases ns.findIdx? (fun n => n.id == id) with
  | some i => rfl
  | none => simp
theorem fnm_snoc {ns : List NM} {n : NM} {p : Int} {s : ByteArray} : fnm (ns ++ [n]) p s = match fnm ns p s with
    | some i => some i
    | none => if n.parent = p ∧ n.name = s then some ns.length else none := by
  unfold fnm
  rw [find_snoc]
  cases ns.findIdx? (fun n => n.parent == p && decide (n.name = s)) with
  | some i => rfl
  | none => simp
theorem fid_map_snoc {rs : List NR} {r : NR} {G : Nat → Nat} {g : Nat} {id : Int} : (fid (nds (rs ++ [r])) id).map (Gn G rs.length g) = match fid (nds rs) id with
    | some i => some (G i)
    | none => if r.nd.id = id then some g else none := by
  rw [nds_snoc, fid_snoc]
  cases h : fid (nds rs) id with
  | some i =>
    obtain ⟨hi, _⟩ := fid_lt h
    rw [nds_len] at hi
    simp [Gn_old hi]
  | none =>
    dsimp only
    split
    · simp [nds_len, Gn_new]
    · rfl
theorem fnm_map_snoc {rs : List NR} {r : NR} {G : Nat → Nat} {g : Nat} {p : Int} {s : ByteArray} : (fnm (nds (rs ++ [r])) p s).map (Gn G rs.length g) = match fnm (nds rs) p s with
    | some i => some (G i)
    | none => if r.nd.parent = p ∧ r.nd.name = s then some g else none := by
  rw [nds_snoc, fnm_snoc]
  cases h : fnm (nds rs) p s with
  | some i =>
    obtain ⟨hi, _⟩ := fnm_lt h
    rw [nds_len] at hi
    simp [Gn_old hi]
  | none =>
    dsimp only
    split
    · simp [nds_len, Gn_new]
    · rfl
theorem par_snoc {ns : List NM} {n : NM} {p : Int} : Par (ns ++ [n]) p ↔ Par ns p ∨ n.parent = p := by
  unfold Par
  constructor
  · rintro ⟨m, hm, e⟩
    rcases List.mem_append.1 hm with h | h
    · exact .inl ⟨m, h, e⟩
    · obtain rfl := List.mem_singleton.1 h
      exact .inr e
  · rintro (⟨m, hm, e⟩ | e)
    · exact ⟨m, by simp [hm], e⟩
    · exact ⟨n, by simp, e⟩
/-- A node more: all three maps have it where it is the first one. -/
theorem Lk.snoc {w w' : World} {B b1 b2 g : Nat} {rs : List NR} {r : NR} {G : Nat → Nat} {C C' : Int → Nat} (h : Lk w B b1 b2 rs G C fun _ => none) (hk : Kept w w') (hn : WCells w' g (lcells r (.pointer none))) (hg : ∀ i, i < rs.length → G i ≠ g) (hB : B ≤ g)
    (h1 : ∃ D, w'.ownsMap Try.prog 3 ptrE b1 (rs.length + 1) D ∧ ∀ id, Tells D (ki id) (match fid (nds rs) id with | some i => some (G i) | none => if r.nd.id = id then some g else none))
    (h2 : ∃ D, w'.ownsMap Try.prog 3 mapE b2 (rs.length + 1) D ∧ ∀ p, (Par (nds rs) p ∨ r.nd.parent = p → Tells D (ki p) (some (C' p))) ∧ (¬ (Par (nds rs) p ∨ r.nd.parent = p) → Tells D (ki p) none))
    (h3 : ∀ p, Par (nds rs) p ∨ r.nd.parent = p → B ≤ C' p ∧ C' p ≠ b1 ∧ C' p ≠ b2 ∧ ∃ D, w'.ownsMap Try.prog 9 ptrE (C' p) (rs.length + 1) D ∧ ∀ s, Tells D (ks s) (match fnm (nds rs) p s with | some i => some (G i) | none => if r.nd.parent = p ∧ r.nd.name = s then some g else none))
    (h4 : ∀ p q, (Par (nds rs) p ∨ r.nd.parent = p) → (Par (nds rs) q ∨ r.nd.parent = q) → C' p = C' q → p = q) : Lk w' B b1 b2 (rs ++ [r]) (Gn G rs.length g) C' fun _ => none := by
  have hl : (rs ++ [r]).length = rs.length + 1 := by simp
  refine ⟨?_, ?_, fun p hp => ?_, fun p q hp hq e => ?_, fun i hi => ?_, fun i j hi hj e => ?_, h.lo⟩
  · obtain ⟨D, o, t⟩ := h1
    exact ⟨D, by rw [hl]; exact o, fun id => by rw [fid_map_snoc]; exact t id⟩
  · obtain ⟨D, o, t⟩ := h2
    refine ⟨D, by rw [hl]; exact o, fun p => ?_⟩
    rw [nds_snoc]
    exact ⟨fun hp => (t p).1 (par_snoc.1 hp), fun hp => (t p).2 fun hp' => hp (par_snoc.2 hp')⟩
  · rw [nds_snoc, par_snoc] at hp
    obtain ⟨q1, q2, q3, D, o, t⟩ := h3 p hp
    exact ⟨q1, q2, q3, D, by rw [hl]; exact o, fun s => by rw [fnm_map_snoc]; exact t s⟩
  · rw [nds_snoc, par_snoc] at hp hq
    exact h4 p q hp hq e
  · rw [hl] at hi
    rcases Nat.lt_or_ge i rs.length with hlt | hge
    · rw [List.getElem_append_left hlt, Gn_old hlt]
      exact ⟨hk _ _ (h.cells i hlt).1, (h.cells i hlt).2⟩
    · obtain rfl : i = rs.length := by omega
      rw [List.getElem_append_right (Nat.le_refl _), Gn_new]
      exact ⟨by simpa [ptrV] using hn, hB⟩
  · rw [hl] at hi hj
    rcases Nat.lt_or_ge i rs.length with hli | hgi <;> rcases Nat.lt_or_ge j rs.length with hlj | hgj
    · rw [Gn_old hli, Gn_old hlj] at e
      exact h.one i j hli hlj e
    · obtain rfl : j = rs.length := by omega
      rw [Gn_old hli, Gn_new] at e
      exact absurd e (hg i hli)
    · obtain rfl : i = rs.length := by omega
      rw [Gn_old hlj, Gn_new] at e
      exact absurd e.symm (hg j hlj)
    · omega
end Go.Proofs.Ytfceohoegeebjaa
/- LkB: A node is added to the links. -/
namespace Go.Proofs.Ytfceohoegeebjaa
open Go.RowKit Go.Maps
attribute [local go_sem ↓] Go.wp_at_zero Go.wp_at_succ

/-- What a map holds, of each key. -/
def Sp {α : Type} (kf : α → Lit) (k : TypeId) (E : Value → Option (DataW Unit × List MemPlace)) (w : World) (b n : Nat) (f : α → Option Nat) : Prop := ∃ D, w.ownsMap Try.prog k E b n D ∧ ∀ x, Tells D (kf x) (f x)
section
variable {α : Type} {kf : α → Lit} {k : TypeId} {E : Value → Option (DataW Unit × List MemPlace)} {w w' : World} {b n : Nat} {f f' : α → Option Nat}
theorem Sp.below (h : Sp kf k E w b n f) (hb : Below w.heap.size w w') : Sp kf k E w' b n f := by
  obtain ⟨D, o, t⟩ := h
  exact ⟨D, own_below o hb, t⟩
theorem Sp.turned {c : Nat} (h : Sp kf k E w b n f) (ht : w.mapTurned w' c) (hne : b ≠ c) : Sp kf k E w' b n f := by
  obtain ⟨D, o, t⟩ := h
  exact ⟨D, own_turned o ht hne, t⟩
theorem Sp.more {m : Nat} (h : Sp kf k E w b n f) (hm : n ≤ m) : Sp kf k E w b m f := by
  obtain ⟨D, o, t⟩ := h
  exact ⟨D, o.mono hm, t⟩
theorem Sp.eq (h : Sp kf k E w b n f) (e : ∀ x, f x = f' x) : Sp kf k E w b n f' := by
  obtain ⟨D, o, t⟩ := h
  exact ⟨D, o, fun x => by rw [← e x]; exact t x⟩
theorem Sp.put {D : DataW Unit} {x : α} {g : Nat} (hi : ∀ x y, kf x = kf y → x = y) (ho : w.ownsMap Try.prog k E b n D) (ht : ∀ x, Tells D (kf x) (f x)) (hk : WideAt.IsKeyLit (kf x)) {m : Nat} (ho' : w'.ownsMap Try.prog k E b m (D.put (kf x) (.lit (.int .i64 g)))) (h1 : f' x = some g) (h2 : ∀ y, y ≠ x → f' y = f y) : Sp kf k E w' b m f' := by
  refine ⟨_, ho', fun y => ?_⟩
  by_cases e : y = x
  · subst e
    rw [h1]
    exact Tells.put_same ho.isMap hk
  · rw [h2 y e]
    exact (ht y).put_other fun q => e (hi _ _ q)
end
abbrev Si := Sp ki 3 ptrE
abbrev Sm := Sp ki 3 mapE
abbrev Ss := Sp ks 9 ptrE
/-- While a node is added: what stays. -/
structure Ph (w W : World) (B b1 b2 h : Nat) (r : NR) : Prop where
  kp : Kept w W
  bl : Below B w W
  sz : w.heap.size ≤ W.heap.size
  bx : WCells W h [.map (some b1), .map (some b2)]
  nd : WCells W (h + 1) (ncells r)
theorem Ph.turned {w W W' : World} {B b1 b2 h c : Nat} {r : NR} (p : Ph w W B b1 b2 h r) (ht : W.mapTurned W' c) (hc : B ≤ c) (hB : B ≤ w.heap.size) : Ph w W' B b1 b2 h r :=
  ⟨p.kp.trans (Kept.turned ht), p.bl.grown ht.grown (by have := p.sz; omega) (fun j hj => by simp at hj; omega), Nat.le_trans p.sz ht.grown.size, wc_mapTurned p.bx ht, wc_mapTurned p.nd ht⟩
theorem Ph.below {w W W' : World} {B b1 b2 h : Nat} {r : NR} (p : Ph w W B b1 b2 h r) (hb : Below W.heap.size W W') (hB : B ≤ w.heap.size) : Ph w W' B b1 b2 h r :=
  ⟨p.kp.trans (Kept.below hb), p.bl.trans (hb.mono (by have := p.sz; omega)), Nat.le_trans p.sz hb.size, p.bx.grow hb, p.nd.grow hb⟩
/-- The maps while a node is added. -/
structure Ms (W : World) (B b1 b2 n1 n2 n3 : Nat) (f1 : Int → Option Nat) (C : Int → Nat) (ps : Int → Prop) (f3 : Int → ByteArray → Option Nat) : Prop where
  s1 : Si W b1 n1 f1
  s2 : ∃ f2, Sm W b2 n2 f2 ∧ ∀ p, (ps p → f2 p = some (C p)) ∧ (¬ ps p → f2 p = none)
  s3 : ∀ p, ps p → B ≤ C p ∧ C p ≠ b1 ∧ C p ≠ b2 ∧ Ss W (C p) n3 (f3 p)
  inj : ∀ p q, ps p → ps q → C p = C q → p = q
theorem Ms.below {W W' : World} {B b1 b2 n1 n2 n3 : Nat} {f1 : Int → Option Nat} {C : Int → Nat} {ps : Int → Prop} {f3 : Int → ByteArray → Option Nat} (h : Ms W B b1 b2 n1 n2 n3 f1 C ps f3) (hb : Below W.heap.size W W') : Ms W' B b1 b2 n1 n2 n3 f1 C ps f3 := by
  obtain ⟨s1, ⟨f2, s2, e2⟩, s3, inj⟩ := h
  exact ⟨s1.below hb, ⟨f2, s2.below hb, e2⟩, fun p hp => ⟨(s3 p hp).1, (s3 p hp).2.1, (s3 p hp).2.2.1, (s3 p hp).2.2.2.below hb⟩, inj⟩
theorem Lk.ms {w : World} {B b1 b2 : Nat} {rs : List NR} {G : Nat → Nat} {C : Int → Nat} {A : Nat → Option Nat} (h : Lk w B b1 b2 rs G C A) : Ms w B b1 b2 rs.length rs.length rs.length (fun id => (fid (nds rs) id).map G) C (Par (nds rs)) (fun p s => (fnm (nds rs) p s).map G) := by
  obtain ⟨m1, ⟨D, o2, t2⟩, m3, inj, cells, one, lo⟩ := h
  classical
  refine ⟨m1, ⟨fun p => if Par (nds rs) p then some (C p) else none, ⟨D, o2, fun p => ?_⟩, fun p => ⟨fun hp => if_pos hp, fun hp => if_neg hp⟩⟩, fun p hp => m3 p hp, inj⟩
  by_cases hp : Par (nds rs) p
  · dsimp only; rw [if_pos hp]; exact (t2 p).1 hp
  · dsimp only; rw [if_neg hp]; exact (t2 p).2 hp
theorem wf_key {x : Int} (h : (Lit.int .i64 x).wf = true) : WideAt.IsKeyLit (ki x) := keyI.key (key_int h)
theorem str_key {s : ByteArray} (h : s.size ≤ maxLen) : WideAt.IsKeyLit (ks s) := keyS.key (key_str h)
set_option maxHeartbeats 2000000 in
set_option maxRecDepth 100000 in
theorem add_any {w : World} {B b1 b2 g : Nat} {rs : List NR} {r : NR} {G : Nat → Nat} {C : Int → Nat} (h : Lk w B b1 b2 rs G C fun _ => none) (hn : WCells w g (lcells r (.pointer none))) (hg : ∀ i, i < rs.length → G i ≠ g) (hB : B ≤ g) (hBw : B ≤ w.heap.size) (hl : rs.length ≤ 1048576) (f1 : (Lit.int .i64 r.nd.id).wf = true) (f2 : (Lit.int .i64 r.nd.parent).wf = true) (f3 : r.nd.name.size ≤ maxLen) :
    Calls Try.prog 85 #[.agg #[.map (some b1), .map (some b2)], .pointer (some ⟨g, 0, none⟩)] w fun e w' => e = .returned (.tuple #[]) ∧ (∃ C', Lk w' B b1 b2 (rs ++ [r]) (Gn G rs.length g) C' fun _ => none) ∧ Kept w w' ∧ Below B w w' := by
  have HL := Shut.mk h
  have HN := Shut.mk hn
  have HG := Shut.mk hg
  have c0 := (hn.2 0 _ rfl).1
  have c1 := (hn.2 1 _ rfl).1
  have c2 := (hn.2 2 _ rfl).1
  have c3 := (hn.2 3 _ rfl).1
  have c4 := (hn.2 4 _ rfl).1
  have c5 := (hn.2 5 _ rfl).1
  have c6 := (hn.2 6 _ rfl).1
  have c7 := (hn.2 7 _ rfl).1
  have c8 := (hn.2 8 _ rfl).1
  have lg := hn.1
  clear h hn hg
  go_enter Try.func85, Try.ntmps85
  go_upto_region 2 with fail
  refine wp_shade (fun W => Ph w W B b1 b2 w.heap.size r ∧ Ms W B b1 b2 rs.length rs.length rs.length (fun id => (fid (nds rs) id).map G) C (Par (nds rs)) (fun p s => (fnm (nds rs) p s).map G)) ?_ ?_
  · have hb : Below w.heap.size w ((w.alloc (.cells #[.map (some b1), .map (some b2)] 77)).alloc (.cells #[.int .i64 r.nd.id, .int .i64 r.nd.parent, .string r.nd.name, .bool r.nd.dir, .int .i64 r.nd.schema, .int .i64 r.nd.quota, .int .i64 r.nd.len, .slice r.loc r.nd.pieces.length r.cap, .int .i64 r.nd.writer] 30)) := ((Below.refl _ _).alloc (Nat.le_refl _) _).alloc (by simp) _
    refine ⟨⟨Kept.below hb, hb.mono hBw, hb.size, (wcells_new w #[.map (some b1), .map (some b2)] 77).alloc _, ?_⟩, HL.out.ms.below hb⟩
    have := wcells_new (w.alloc (.cells #[.map (some b1), .map (some b2)] 77)) #[.int .i64 r.nd.id, .int .i64 r.nd.parent, .string r.nd.name, .bool r.nd.dir, .int .i64 r.nd.schema, .int .i64 r.nd.quota, .int .i64 r.nd.len, .slice r.loc r.nd.pieces.length r.cap, .int .i64 r.nd.writer] 30
    simpa [ncells] using this
  intro W hW
  obtain ⟨hP, hM⟩ := hW
  have HP := Shut.mk hP
  have HM := Shut.mk hM
  have HLO := Shut.mk HL.out.lo
  clear c0 c1 c2 c3 c4 c5 c6 c7 c8 hP hM
  have b0 := (HP.out.bx.2 0 _ rfl).1
  have n0 := (HP.out.nd.2 0 _ rfl).1
  obtain ⟨D1, o1, t1⟩ := HM.out.s1
  have hk1 := look_ptr keyI Try.underlying74 zeroLp o1 (key_int f1) (t1 r.nd.id) 0
  rw [World.drewN_zero] at hk1
  dsimp only at hk1
  have T1 := Shut.mk t1
  clear t1
  obtain ⟨u1, hu1⟩ : ∃ u1, u1 = (fid (nds rs) r.nd.id).map G := ⟨_, rfl⟩
  rw [← hu1] at hk1
  have U1 := Shut.mk hu1
  clear hu1
  have e1 := eqg_ptr
  have e2 := eq_ptr
  go_upto_if 14 with fail
  go_cut [4] from 5 to 47 (fun u wx => u = .pointer (some ⟨w.heap.size + 1, 0, none⟩) ∧ Shut (Ph w wx B b1 b2 w.heap.size r ∧ Ms wx B b1 b2 (rs.length + 1) rs.length rs.length (fun id => match fid (nds rs) id with | some i => some (G i) | none => if r.nd.id = id then some g else none) C (Par (nds rs)) (fun p s => (fnm (nds rs) p s).map G)))
  case first =>
    cases u1 with
    | some x =>
      clear o1 T1 D1
      go_wp2_with fail
      go_meet
      case rel =>
        refine ⟨rfl, ⟨HP.out, ?_⟩⟩
        obtain ⟨s1, s2, s3, inj⟩ := HM.out
        refine ⟨(s1.more (Nat.le_succ _)).eq fun id => ?_, s2, s3, inj⟩
        cases hf : fid (nds rs) id with
        | some i => rfl
        | none =>
          by_cases e : r.nd.id = id
          · have := U1.out
            rw [e, hf] at this
            cases this
          · simp [e]
    | none =>
      have hmx : rs.length < maxLen := by unfold maxLen; omega
      go_wp2_with (at_mapUpdate; refine wpList_mapUpdate_in _ rfl _ _ _ 74 rfl 3 61 keyI Try.underlying74 ptrE b1 rs.length D1 rfl o1 hmx _ _ _ rfl rfl (key_int f1) (.lit (.int .i64 g)) [] rfl ?_; intro w2 hown2 hturn2)
      go_meet
      case rel =>
        refine ⟨rfl, ⟨HP.out.turned hturn2 HLO.out.1 hBw, ?_⟩⟩
        obtain ⟨s1, ⟨f2', s2, e2⟩, s3, inj⟩ := HM.out
        refine ⟨Sp.put (fun x y => ki_inj) o1 T1.out (wf_key f1) hown2 ?_ (fun y hy => ?_), ⟨f2', s2.turned hturn2 (fun e => HLO.out.2.2 e.symm), e2⟩, fun p hp => ⟨(s3 p hp).1, (s3 p hp).2.1, (s3 p hp).2.2.1, (s3 p hp).2.2.2.turned hturn2 (s3 p hp).2.1⟩, inj⟩
        · have := U1.out
          cases hf : fid (nds rs) r.nd.id with
          | some i => rw [hf] at this; cases this
          | none => simp
        · cases hf : fid (nds rs) y with
          | some i => rfl
          | none => simp; exact fun e => hy e.symm
  case rest =>
    obtain ⟨rfl, hc⟩ := hcut
    clear b0 n0 hk1 o1 T1 HM HP U1
    have HP := Shut.mk hc.out.1
    have HM := Shut.mk hc.out.2
    clear hc
    have b0 := (HP.out.bx.2 1 _ rfl).1
    have n0 := (HP.out.nd.2 1 _ rfl).1
    obtain ⟨F2, ⟨D2, o2, t2⟩, E2⟩ := HM.out.s2
    have hk2 := look_map keyI Try.underlying75 zeroLm o2 (key_int f2) (t2 r.nd.parent) 0
    rw [World.drewN_zero] at hk2
    have T2 := Shut.mk t2
    have HE2 := Shut.mk E2
    clear t2 E2
    obtain ⟨u2, hu2⟩ : ∃ u2, u2 = F2 r.nd.parent := ⟨_, rfl⟩
    rw [← hu2] at hk2
    have U2 := Shut.mk hu2
    clear hu2
    have e3 := eqg_map
    have e4 := eq_map
    go_upto_if 25 with fail
    go_cut [4] from 5 to 47 (fun u wx => u = .pointer (some ⟨w.heap.size + 1, 0, none⟩) ∧ Shut (Ph w wx B b1 b2 w.heap.size r ∧ ∃ C', Ms wx B b1 b2 (rs.length + 1) (rs.length + 1) rs.length (fun id => match fid (nds rs) id with | some i => some (G i) | none => if r.nd.id = id then some g else none) C' (fun p => Par (nds rs) p ∨ r.nd.parent = p) (fun p s => (fnm (nds rs) p s).map G)))
    case first =>
      cases u2 with
      | some x =>
        have hpar : Par (nds rs) r.nd.parent := Classical.byContradiction fun hp => by
          have := (HE2.out r.nd.parent).2 hp
          rw [← U2.out] at this
          cases this
        have HPA := Shut.mk hpar
        clear o2 T2 D2 hpar
        go_wp2_with fail
        go_meet
        case rel =>
          refine ⟨rfl, ⟨HP.out, C, ?_⟩⟩
          obtain ⟨s1, ⟨f2', s2, e2⟩, s3, inj⟩ := HM.out
          have hps : ∀ p, Par (nds rs) p ∨ r.nd.parent = p → Par (nds rs) p := fun p hp => hp.elim (fun h => h) (fun e => e ▸ HPA.out)
          exact ⟨s1, ⟨f2', s2.more (Nat.le_succ _), fun p => ⟨fun hp => (e2 p).1 (hps p hp), fun hp => (e2 p).2 fun hp' => hp (.inl hp')⟩⟩, fun p hp => s3 p (hps p hp), fun p q hp hq => inj p q (hps p hp) (hps q hq)⟩
      | none =>
        have hpar : ¬ Par (nds rs) r.nd.parent := fun hp => by
          have := (HE2.out r.nd.parent).1 hp
          rw [← U2.out] at this
          cases this
        have HPA := Shut.mk hpar
        have hmx : rs.length < maxLen := by unfold maxLen; omega
        have hmm := @run_makeMap Try.prog
        have o2' := o2.alloc (.map #[] 0)
        have hlt : b2 < wc.heap.size := o2.lt
        clear hpar
        go_wp2_with (at_mapUpdate; refine wpList_mapUpdate_in _ rfl _ _ _ 75 rfl 3 81 keyI Try.underlying75 mapE b2 rs.length D2 rfl o2' hmx _ _ _ rfl rfl (key_int f2) (.lit (.int .i64 wc.heap.size)) [] rfl ?_; intro w2 hown2 hturn2)
        go_meet
        case rel =>
          have hb : Below wc.heap.size wc (wc.alloc (.map #[] 0)) := (Below.refl _ _).alloc (Nat.le_refl _) _
          have hne : wc.heap.size ≠ b2 := by omega
          have hsw := HP.out.sz
          obtain ⟨s1, ⟨f2', s2, e2⟩, s3, inj⟩ := HM.out
          obtain ⟨p1, p2, p3⟩ := HLO.out
          have hl1 : b1 < wc.heap.size := by obtain ⟨_, o, _⟩ := s1; exact o.lt
          classical
          have hother : ∀ p, Par (nds rs) p ∨ r.nd.parent = p → p ≠ r.nd.parent → Par (nds rs) p := fun p hp hne => hp.elim (fun h => h) (fun e => absurd e.symm hne)
          have hlC : ∀ p, Par (nds rs) p → C p < wc.heap.size := fun p hp => by obtain ⟨_, _, _, _, o, _⟩ := s3 p hp; exact o.lt
          refine ⟨rfl, ⟨(HP.out.below hb hBw).turned hturn2 p2 hBw, fun p => if p = r.nd.parent then wc.heap.size else C p, ?_⟩⟩
          refine ⟨(s1.below hb).turned hturn2 p3, ⟨fun p => if p = r.nd.parent then some wc.heap.size else F2 p, Sp.put (fun x y => ki_inj) o2 T2.out (wf_key f2) hown2 (by simp) (fun y hy => by simp [hy]), fun p => ⟨fun hp => ?_, fun hp => ?_⟩⟩, fun p hp => ?_, fun p q hp hq e => ?_⟩
          · by_cases e : p = r.nd.parent
            · simp [e]
            · simp only [if_neg e]
              exact (HE2.out p).1 (hother p hp e)
          · have e : p ≠ r.nd.parent := fun e => hp (.inr e.symm)
            simp only [if_neg e]
            exact (HE2.out p).2 fun h => hp (.inl h)
          · by_cases e : p = r.nd.parent
            · subst e
              simp only [if_pos]
              refine ⟨by omega, by omega, hne, ?_⟩
              refine (Sp.more (Sp.turned (c := b2) (w := wc.alloc (.map #[] 0)) ⟨.map [], World.ownsMap_made wc Try.prog 9 ptrE, fun s => ?_⟩ hturn2 hne) (Nat.zero_le _))
              cases hf : fnm (nds rs) r.nd.parent s with
              | some i => exact absurd (par_fnm hf) HPA.out
              | none => dsimp only; rw [hf]; rfl
            · simp only [if_neg e]
              obtain ⟨q1, q2, q3, q4⟩ := s3 p (hother p hp e)
              exact ⟨q1, q2, q3, (q4.below hb).turned hturn2 q3⟩
          · by_cases e1 : p = r.nd.parent <;> by_cases e2' : q = r.nd.parent
            · rw [e1, e2']
            · simp only [if_pos e1, if_neg e2'] at e
              have := hlC q (hother q hq e2')
              omega
            · simp only [if_neg e1, if_pos e2'] at e
              have := hlC p (hother p hp e1)
              omega
            · simp only [if_neg e1, if_neg e2'] at e
              exact inj p q (hother p hp e1) (hother q hq e2') e
    case rest =>
      obtain ⟨rfl, hc⟩ := hcut
      clear b0 n0 hk2 o2 T2 HE2 HM HP U2
      have HP := Shut.mk hc.out.1
      obtain ⟨C', hM⟩ := hc.out.2
      have HM := Shut.mk hM
      clear hc hM
      have b0 := (HP.out.bx.2 1 _ rfl).1
      have n0 := (HP.out.nd.2 1 _ rfl).1
      have n1 := (HP.out.nd.2 2 _ rfl).1
      obtain ⟨F2, ⟨D2, o2, t2⟩, E2⟩ := HM.out.s2
      have hk2 := look_map keyI Try.underlying75 zeroLm o2 (key_int f2) (t2 r.nd.parent) 0
      rw [World.drewN_zero, (E2 r.nd.parent).1 (.inr rfl)] at hk2
      unfold mapV at hk2
      obtain ⟨q1, q2, q3, D3, o3, t3⟩ := HM.out.s3 r.nd.parent (.inr rfl)
      have hk3 := look_ptr keyS Try.underlying81 zeroLp o3 (key_str f3) (t3 r.nd.name) 0
      rw [World.drewN_zero] at hk3
      dsimp only at hk2 hk3
      have T3 := Shut.mk t3
      have HC := Shut.mk (And.intro q1 (And.intro q2 q3))
      clear t2 t3 E2 o2 q1 q2 q3
      obtain ⟨c, hce⟩ : ∃ c, c = C' r.nd.parent := ⟨_, rfl⟩
      rw [← hce] at hk2 hk3 o3
      have HCE := Shut.mk hce
      obtain ⟨u3, hu3⟩ : ∃ u3, u3 = (fnm (nds rs) r.nd.parent r.nd.name).map G := ⟨_, rfl⟩
      rw [← hu3] at hk3
      have U3 := Shut.mk hu3
      clear hu3 hce
      have HFIN : Shut (∀ w', Kept w w' → Below B w w' → Ms w' B b1 b2 (rs.length + 1) (rs.length + 1) (rs.length + 1) (fun id => match fid (nds rs) id with | some i => some (G i) | none => if r.nd.id = id then some g else none) C' (fun p => Par (nds rs) p ∨ r.nd.parent = p) (fun p s => match fnm (nds rs) p s with | some i => some (G i) | none => if r.nd.parent = p ∧ r.nd.name = s then some g else none) → ∃ C', Lk w' B b1 b2 (rs ++ [r]) (Gn G rs.length g) C' fun _ => none) := ⟨fun w' hk hb hm => by
        obtain ⟨s1, ⟨f2', ⟨D, o, t⟩, e2⟩, s3, inj⟩ := hm
        exact ⟨C', HL.out.snoc hk (hk _ _ HN.out) HG.out hB s1 ⟨D, o, fun p => ⟨fun hp => by rw [← (e2 p).1 hp]; exact t p, fun hp => by rw [← (e2 p).2 hp]; exact t p⟩⟩ s3 inj⟩⟩
      cases u3 with
      | some x =>
        clear o3 T3 D3
        go_wp2_with fail
        refine bodyPost_end (v := .tuple #[]) (by simp [results, Try.results85, go_sem]) rfl ?_
        refine ⟨rfl, HFIN.out _ HP.out.kp HP.out.bl ?_, HP.out.kp, HP.out.bl⟩
        obtain ⟨s1, s2, s3, inj⟩ := HM.out
        refine ⟨s1, s2, fun p hp => ⟨(s3 p hp).1, (s3 p hp).2.1, (s3 p hp).2.2.1, (Sp.more (s3 p hp).2.2.2 (Nat.le_succ _)).eq fun s => ?_⟩, inj⟩
        cases hf : fnm (nds rs) p s with
        | some i => rfl
        | none =>
          by_cases e : r.nd.parent = p ∧ r.nd.name = s
          · have := U3.out
            rw [e.1, e.2, hf] at this
            cases this
          · simp [e]
      | none =>
        have hmx : rs.length < maxLen := by unfold maxLen; omega
        go_wp2_with (at_mapUpdate; refine wpList_mapUpdate_in _ rfl _ _ _ 81 rfl 9 61 keyS Try.underlying81 ptrE c rs.length D3 rfl o3 hmx _ _ _ rfl rfl (key_str f3) (.lit (.int .i64 g)) [] rfl ?_; intro w2 hown2 hturn2)
        refine bodyPost_end (v := .tuple #[]) (by simp [results, Try.results85, go_sem]) rfl ?_
        have hcB : B ≤ c := by rw [HCE.out]; exact HC.out.1
        have hP := HP.out.turned hturn2 hcB hBw
        refine ⟨rfl, HFIN.out _ hP.kp hP.bl ?_, hP.kp, hP.bl⟩
        obtain ⟨s1, ⟨f2', s2, e2⟩, s3, inj⟩ := HM.out
        refine ⟨s1.turned hturn2 (by rw [HCE.out]; exact fun e => HC.out.2.1 e.symm), ⟨f2', s2.turned hturn2 (by rw [HCE.out]; exact fun e => HC.out.2.2 e.symm), e2⟩, fun p hp => ?_, inj⟩
        obtain ⟨q1, q2, q3, q4⟩ := s3 p hp
        refine ⟨q1, q2, q3, ?_⟩
        by_cases e : p = r.nd.parent
        · subst e
          rw [← HCE.out]
          refine Sp.put (fun x y => ks_inj) o3 T3.out (str_key f3) hown2 ?_ (fun y hy => ?_)
          · have := U3.out
            cases hf : fnm (nds rs) r.nd.parent r.nd.name with
            | some i => rw [hf] at this; cases this
            | none => simp
          · cases hf : fnm (nds rs) r.nd.parent y with
            | some i => rfl
            | none => simp; exact fun e => hy e.symm
        · refine ((q4.turned hturn2 fun e' => e ?_).more (Nat.le_succ _)).eq fun s => ?_
          · exact inj p r.nd.parent hp (.inr rfl) (e'.trans HCE.out)
          · cases hf : fnm (nds rs) p s with
            | some i => rfl
            | none => simp; exact fun e' => absurd e'.symm e
end Go.Proofs.Ytfceohoegeebjaa
/- LkC: The nodes of a tree are linked. -/
namespace Go.Proofs.Ytfceohoegeebjaa
open Go.RowKit Go.Maps
attribute [local go_sem ↓] Go.wp_at_zero Go.wp_at_succ

theorem own_ne {w : World} {P : Program} {k : TypeId} {R : Value → Option (DataW Unit × List MemPlace)} {b n g : Nat} {D : DataW Unit} {L : List Value} (h : w.ownsMap P k R b n D) (hc : WCells w g L) (hL : 0 < L.length) : b ≠ g := by
  rintro rfl
  obtain ⟨es, clock, hb, _⟩ := h
  have := (hc.2 0 _ (List.getElem?_eq_getElem hL)).1
  simp [World.cell?, hb] at this
theorem wc_grown9 {w w' : World} {g r : Nat} {L : List Value} (h : WCells w g L) (hg : w.grownBy w' (some r)) (hr : g ≠ r) : WCells w' g L := by
  have hk := hg.block g h.1 (by simpa using hr)
  refine ⟨Nat.lt_of_lt_of_le h.1 hg.size, fun i v hv => ?_⟩
  have h1 := h.2 i v hv
  simp only [World.cell?, World.frozen?, hk] at h1 ⊢
  exact h1
theorem Lk.grown {w w' : World} {B b1 b2 r : Nat} {rs : List NR} {G : Nat → Nat} {C : Int → Nat} {A : Nat → Option Nat} (h : Lk w B b1 b2 rs G C A) (hg : w.grownBy w' (some r)) (h1 : b1 ≠ r) (h2 : b2 ≠ r) (h3 : ∀ p, Par (nds rs) p → C p ≠ r) (h4 : ∀ i, i < rs.length → G i ≠ r) : Lk w' B b1 b2 rs G C A := by
  obtain ⟨⟨D1, o1, t1⟩, ⟨D2, o2, t2⟩, m3, inj, cells, one, lo⟩ := h
  refine ⟨⟨D1, o1.kept hg (by simpa using h1), t1⟩, ⟨D2, o2.kept hg (by simpa using h2), t2⟩, fun p hp => ?_, inj, fun i hi => ⟨wc_grown9 (cells i hi).1 hg (h4 i hi), (cells i hi).2⟩, one, lo⟩
  obtain ⟨q1, q2, q3, D, o3, t3⟩ := m3 p hp
  exact ⟨q1, q2, q3, D, o3.kept hg (by simpa using h3 p hp), t3⟩
theorem ptrV_is (o : Option Nat) : ∃ a, ptrV o = .pointer a := by
  cases o with
  | none => exact ⟨none, rfl⟩
  | some g => exact ⟨some ⟨g, 0, none⟩, rfl⟩
theorem grown_setCell (W : World) (p : Addr) (v : Value) : W.grownBy (W.setCell p v) (some p.block) :=
  ⟨rfl, rfl, rfl, by simp [World.setCell], fun k _ hk => Below.heap_setCell _ _ _ k (fun e => hk (by rw [e]))⟩
theorem lcells_len (r : NR) (p : Value) : (lcells r p).length = 10 := rfl
theorem lcells_set (r : NR) (p q : Value) : (lcells r p).set 9 q = lcells r q := rfl
/-- A node is told the one above it. -/
theorem Lk.tell {w : World} {B b1 b2 : Nat} {rs : List NR} {G : Nat → Nat} {C : Int → Nat} {A A' : Nat → Option Nat} {i : Nat} (h : Lk w B b1 b2 rs G C A) (hi : i < rs.length) (hA : ∀ j, j < rs.length → j ≠ i → A' j = A j) : Lk (w.setCell ⟨G i, 9, none⟩ (ptrV ((A' i).map G))) B b1 b2 rs G C A' := by
  obtain ⟨⟨D1, o1, t1⟩, ⟨D2, o2, t2⟩, m3, inj, cells, one, lo⟩ := h
  have hc := (cells i hi).1
  refine ⟨⟨D1, o1.setCell (a := ⟨G i, 9, none⟩) (own_ne o1 hc (by simp [lcells])) _, t1⟩, ⟨D2, o2.setCell (a := ⟨G i, 9, none⟩) (own_ne o2 hc (by simp [lcells])) _, t2⟩, fun p hp => ?_, inj, fun j hj => ?_, one, lo⟩
  · obtain ⟨q1, q2, q3, D, o3, t3⟩ := m3 p hp
    exact ⟨q1, q2, q3, D, o3.setCell (a := ⟨G i, 9, none⟩) (own_ne o3 hc (by simp [lcells])) _, t3⟩
  · by_cases e : j = i
    · subst e
      have := hc.set 9 (ptrV ((A' j).map G)) (by simp [lcells])
      rw [lcells_set] at this
      exact ⟨this, (cells j hj).2⟩
    · rw [hA j hj e]
      exact ⟨(cells j hj).1.other _ _ (fun q => e (one j i hj hi q)), (cells j hj).2⟩
theorem Lk.same {w : World} {B b1 b2 : Nat} {rs : List NR} {G : Nat → Nat} {C : Int → Nat} {A A' : Nat → Option Nat} (h : Lk w B b1 b2 rs G C A) (hA : ∀ j, j < rs.length → A' j = A j) : Lk w B b1 b2 rs G C A' := by
  obtain ⟨m1, m2, m3, inj, cells, one, lo⟩ := h
  exact ⟨m1, m2, m3, inj, fun j hj => by rw [hA j hj]; exact cells j hj, one, lo⟩
theorem Lk.side {w : World} {B b1 b2 : Nat} {rs : List NR} {G : Nat → Nat} {C : Int → Nat} {A : Nat → Option Nat} (h : Lk w B b1 b2 rs G C A) (p : Addr) (v : Value) {L : List Value} (hp : WCells w p.block L) (hL : 0 < L.length) (hne : ∀ i, i < rs.length → G i ≠ p.block) : Lk (w.setCell p v) B b1 b2 rs G C A := by
  obtain ⟨⟨D1, o1, t1⟩, ⟨D2, o2, t2⟩, m3, inj, cells, one, lo⟩ := h
  refine ⟨⟨D1, o1.setCell (own_ne o1 hp hL) _, t1⟩, ⟨D2, o2.setCell (own_ne o2 hp hL) _, t2⟩, fun q hq => ?_, inj, fun j hj => ⟨(cells j hj).1.other _ _ (hne j hj), (cells j hj).2⟩, one, lo⟩
  obtain ⟨q1, q2, q3, D, o3, t3⟩ := m3 q hq
  exact ⟨q1, q2, q3, D, o3.setCell (own_ne o3 hp hL) _, t3⟩
/-- Who is above a node: of the first one of an Id. -/
def Ab (ns : List NM) (left : Lit → Bool) (i : Nat) : Option Nat := if fid ns (ns.getD i default).id = some i ∧ left (ki (ns.getD i default).id) = false then fid ns (ns.getD i default).parent else none
theorem same_ki (a b : Int) : (ki a).sameKey (ki b) = decide (a = b) := by
  by_cases e : a = b
  · subst e; simp [Lit.sameKey]
  · rw [Maps.sameKey_ne (fun q => e (ki_inj q))]; simp [e]
theorem ab_step {ns : List NM} {left : Lit → Bool} {x : Int} {i : Nat} (hi : fid ns x = some i) : (∀ j, j < ns.length → j ≠ i → Ab ns (fun z => left z && !z.sameKey (ki x)) j = Ab ns left j) ∧ Ab ns (fun z => left z && !z.sameKey (ki x)) i = fid ns (ns.getD i default).parent := by
  obtain ⟨hil, ei⟩ := fid_lt hi
  constructor
  · intro j hj hne
    unfold Ab
    by_cases hf : fid ns (ns.getD j default).id = some j
    · have : ¬ (ns.getD j default).id = x := fun e => by
        rw [e, hi] at hf
        cases hf
        exact hne rfl
      simp only [same_ki, this, decide_false, Bool.not_false, Bool.and_true]
    · simp only [hf, false_and, if_false]
  · unfold Ab
    rw [getD_in hil, ei, if_pos ⟨hi, by simp [same_ki]⟩]
end Go.Proofs.Ytfceohoegeebjaa
