/- The program's own SizeOf: a range over the library's slices.Backward, left by a return. -/
import Derived.Test.YtendbipfmgnjkaaSpSz
import Derived.Test.YtendbipfmgnjkaaFrX
import Derived.Test.YtendbipfmgnjkaaFrY
import Derived.Test.YtendbipfmgnjkaaClS
import Derived.RangeFuncCalls
import Derived.RegionIn
import Derived.BigRegionIn
namespace Go.Proofs.Ytendbipfmgnjkaa
set_option maxRecDepth 100000
open Go.RowKit Go.Shelf
attribute [local go_sem] Oper.semAt_some

/-- The places of a list, from its end on. -/
def downs (n : Nat) : List Nat := (List.range n).reverse
theorem downs_succ (k : Nat) : downs (k + 1) = k :: downs k := by unfold downs; rw [List.range_succ, List.reverse_append]; rfl
theorem downs_zero : downs 0 = [] := rfl
theorem downs_cons {n x : Nat} {post : List Nat} (h : downs n = x :: post) : n = x + 1 ∧ post = downs x := by
  cases n with
  | zero => cases h
  | succ k => rw [downs_succ] at h; cases h; exact ⟨rfl, rfl⟩
attribute [local irreducible] downs
/-- What yield is handed. -/
def bwEnc (L : List PzM) (k : Nat) : Array Value := #[.int .i64 (k : Int), pzv (L.getD k default)]

set_option maxRecDepth 100000 in
set_option maxHeartbeats 2000000 in
theorem backward_or (L : List PzM) (a : Option Addr) (cap q B : Nat) (hl : L.length ≤ 1048576) (m l : Nat) (J Jx : List Nat → World → Prop) (hI : ∀ p X, J p X → X.cell? ⟨q, 0, none⟩ = some (.slice a L.length cap) ∧ PzRow X a L) (hJ : ∀ p X Y, J p X → X.grownBy Y none → J p Y)
    (hY : RoundRet Try.prog (m - 1) l B (bwEnc L) J Jx (downs L.length)) (W0 : World) (h0 : J [] W0) :
    CallsIn Fence.wide m Try.prog 72 #[.func (.yield l) #[] #[], .pointer (some ⟨q, 0, none⟩)] W0 fun e W' => (∃ v, e = .returned v) ∧ (J (downs L.length) W' ∨ ∃ pre, Jx pre W') := by
  have HI : Hid _ := hI
  have HJ : Hid _ := hJ
  have HY : Hid _ := hY
  obtain ⟨n, hn⟩ : ∃ n, n = L.length := ⟨_, rfl⟩
  have HN : Hid _ := hn
  rw [← hn] at HI HY hl ⊢
  have q0 := (HI.out _ _ h0).1
  clear hI hJ hY hn
  refine callsIn_of_wp Try.func72 rfl trivial ?_ rfl
  simp only [Try.ntmps72, List.size_toArray, List.length_cons, List.length_nil, Nat.reduceAdd, Nat.reduceSub, Array.replicate_succ, Array.replicate_zero, List.push_toArray, List.append_toArray, List.nil_append, List.cons_append]
  gi_wp2
  gi_loopw [3] (fun i wr => ∃ (x : Int) (k : Nat) (pre : List Nat), i = .int .i64 x ∧ x = (k : Int) - 1 ∧ k ≤ n ∧ Hid (downs n = pre ++ downs k) ∧ J pre wr) (fun i _ => (intOf i + 1).toNat)
  case atStart => exact ⟨_, n, [], rfl, rfl, Nat.le_refl _, rfl, h0⟩
  case round =>
    clear q0 h0
    obtain ⟨x, k, pre, rfl, hx, hk, hall, hj⟩ := hrel
    have q1 := (HI.out _ _ hj).1
    by_cases hlt : (0 : Int) ≤ x
    · obtain ⟨j, rfl⟩ : ∃ j : Nat, x = (j : Int) := ⟨x.toNat, by omega⟩
      have e : k = j + 1 := by omega
      subst e
      have hjn : (j : Int) < (n : Int) := by omega
      have hju : j < L.length := by have := HN.out; omega
      obtain ⟨b, off, rfl, lb, hc⟩ := PzRow.at (HI.out _ _ hj).2 (by omega)
      obtain ⟨d0, d1⟩ := hc j hju
      have hg : L.getD j default = L[j] := by simp [List.getD, hju]
      have hxs : downs n = pre ++ j :: downs j := by rw [← downs_succ]; exact hall
      have HX : Hid _ := hxs
      have hx2 : downs n = (pre ++ [j]) ++ downs j := by rw [hxs]; simp
      have HX2 : Hid _ := hx2
      have hen : bwEnc L j = #[.int .i64 (j : Int), .agg #[.int .i64 L[j].group, .string L[j].text]] := by unfold bwEnc; rw [hg]
      have HE : Hid _ := hen
      have HL : Hid _ := hall
      clear hc hg hxs hx2 hen hall hx
      generalize L[j] = u at *
      gi_wp2_with fail
      obtain ⟨fn, tmps, assign, body, hy, hR⟩ := HY.out pre j (downs j) wr HX.out hj
      rw [HE.out] at hy
      rw [hy]
      refine ⟨(fun h => by cases h), hR.mono ?_⟩
      rintro e w2 ⟨hb2, ⟨rfl, hj2⟩ | ⟨rfl, hj2⟩⟩
      · gi_wp2
        go_roundw
        case rel => exact ⟨(j : Int) - 1, j, pre ++ [j], by go_num, rfl, by omega, HX2, hj2⟩
        case measure => simp [intOf]
      · gi_wp2
        refine bodyPost_ret (results_none rfl _ _ _) rfl ?_
        exact ⟨⟨_, rfl⟩, .inr ⟨_, hj2⟩⟩
    · have e : k = 0 := by omega
      subst e
      have e9 : downs n = pre := by have := hall.out; rwa [downs_zero, List.append_nil] at this
      have HL : Hid _ := e9
      clear e9
      clear hall hx
      gi_wp2
      go_end0
      exact ⟨⟨_, rfl⟩, .inl (by rw [HL.out]; exact hj)⟩

theorem downs_nil {k : Nat} (h : downs k = []) : k = 0 := by
  cases k with
  | zero => rfl
  | succ k => rw [downs_succ] at h; cases h
/-- Boxes stay where what is no cells is turned. -/
theorem SL.rec9 {w X Y : World} {S : List Str} {row : Option Nat} (h : SL w X S) (hS : ∀ s ∈ S, ∃ b v V, s = bxS b (v :: V)) (hg : X.grownBy Y row) (hr : ∀ r, row = some r → w.heap.size ≤ r ∧ ∃ o : Obj, X.heap[r]? = some o ∧ o.isCells = false) : SL w Y S :=
  h.grown hg fun q e => ⟨(hr q e).1, fun s hs => by
    obtain ⟨b, v, V, rfl⟩ := hS s hs
    have hc : WCells X b (v :: V) := (h.is _ hs).1
    obtain ⟨o, ho, hoc⟩ := cells_of_cell (hc.2 0 v rfl).1
    obtain ⟨-, o', ho', hn⟩ := hr q e
    have hne : b ≠ q := fun e => by subst e; rw [show X.heap[b]? = some o from ho] at ho'; cases ho'; rw [hoc] at hn; cases hn
    dsimp only [bxS]
    omega⟩
theorem keeps_below9 {W W' : World} (h : Below W.heap.size W W') : KeepsOthers W W' := ⟨h.size, fun k _ hk _ => (h.block k (Array.getElem?_eq_some_iff.1 hk).1).trans hk⟩
/-- The library's Backward hands back a closure over its list. -/
theorem backward_makes (a : Option Addr) (n cap : Nat) (w : World) : Calls Try.prog 48 #[.slice a n cap] w fun e w' => e = .returned (.func (.func 72) #[] #[.pointer (some ⟨w.heap.size, 0, none⟩)]) ∧ Below w.heap.size w w' ∧ WCells w' w.heap.size [.slice a n cap] ∧ w.heap.size + 1 ≤ w'.heap.size := by
  go_enter Try.func48, Try.ntmps48
  go_wp2_with fail
  go_ret
  exact ⟨rfl, (Below.refl _ _).alloc (Nat.le_refl _) _, wcells_new w #[.slice a n cap] _, by simp⟩
/-- While the list is gone through from its end on: the boxes of the group, of the answer and of the list. -/
abbrev bkS (w : World) (a : Option Addr) (n cap : Nat) (g : Int) (r : PzM) : List Str := [bxS (w.heap.size + 1 + 1) [.slice a n cap], bxS (w.heap.size + 1) [.int .i64 r.group, .string r.text], bxS w.heap.size [.int .i64 g]]
def BkW (L : List PzM) (g : Int) (pre : List Nat) : Prop := ∃ k, k ≤ L.length ∧ downs L.length = pre ++ downs k ∧ sizeX L g = sizeX (L.take k) g
def BkI (w : World) (L : List PzM) (a : Option Addr) (cap : Nat) (g : Int) (pre : List Nat) (X : World) : Prop := BkW L g pre ∧ SL w X (bkS w a L.length cap g ⟨0, ⟨#[]⟩⟩)
def BkX (w : World) (L : List PzM) (a : Option Addr) (cap : Nat) (g : Int) (_ : List Nat) (X : World) : Prop := SL w X (bkS w a L.length cap g (sizeX L g))
def BkA (w : World) (L : List PzM) (a : Option Addr) (cap : Nat) (g : Int) (pre : List Nat) (x : Nat) (b : Act) (X : World) : Prop :=
  BkW L g pre ∧ ∃ q, SL w X (bxS q (pzC (L.getD x default)) :: bkS w a L.length cap g ⟨0, ⟨#[]⟩⟩) ∧ b = { tmps := #[.slice a L.length cap, .int .i64 g, undef, .pointer (some ⟨w.heap.size, 0, none⟩), .pointer (some ⟨w.heap.size + 1, 0, none⟩), undef, .pointer (some ⟨q, 0, none⟩), .slice a L.length cap, .func (.func 72) #[] #[.pointer (some ⟨w.heap.size + 1 + 1, 0, none⟩)], .int .i64 (x : Int), pzv (L.getD x default), undef, undef, undef, undef, undef, undef, undef, undef, undef, undef, undef], defers := [] }
theorem bkS_box (w : World) (a : Option Addr) (n cap : Nat) (g : Int) (r : PzM) : ∀ s ∈ bkS w a n cap g r, ∃ b v V, s = bxS b (v :: V) := by
  intro s hs
  simp only [List.mem_cons, List.not_mem_nil, or_false] at hs
  rcases hs with rfl | rfl | rfl
  · exact ⟨_, _, _, rfl⟩
  · exact ⟨_, _, _, rfl⟩
  · exact ⟨_, _, _, rfl⟩
theorem bkR {w w1 : World} (hb : w.heap.size ≤ w1.heap.size) {X : World} {row : Option Nat} (hr : ∀ r, row = some r → w1.heap.size ≤ r ∧ ∃ o : Obj, X.heap[r]? = some o ∧ o.isCells = false) : ∀ r, row = some r → w.heap.size ≤ r ∧ ∃ o : Obj, X.heap[r]? = some o ∧ o.isCells = false := fun r e => ⟨Nat.le_trans hb (hr r e).1, (hr r e).2⟩

theorem bk_fin {w X : World} {a : Option Addr} {n cap D : Nat} {g : Int} {r : PzM} (h : SL w X (bkS w a n cap g r)) (hD : w.heap.size ≤ D) (hK : X.heap[D]? = some (.deferred (some []))) :
    (X.putObj D (.deferred none)).cell? ⟨w.heap.size + 1, 0, none⟩ = some (.int .i64 r.group) ∧ (X.putObj D (.deferred none)).cell? ⟨w.heap.size + 1, 1, none⟩ = some (.string r.text) ∧ Below w.heap.size w (X.putObj D (.deferred none)) := by
  have k := h.rec9 (bkS_box _ _ _ _ _ _) (grownBy_putObj' X D (.deferred none)) (fun r e => by cases e; exact ⟨hD, _, hK, rfl⟩)
  exact ⟨(k.bx 1 rfl 0 _ rfl).1, (k.bx 1 rfl 1 _ rfl).1, k.bel⟩

set_option maxRecDepth 100000 in
set_option maxHeartbeats 2000000 in
theorem implSizeOf (L : List PzM) (a : Option Addr) (cap : Nat) (g : Int) (w : World) (h : PzRow w a L) (hl : L.length ≤ 1048576) (hs : pzSum L ≤ 1048576) :
    Calls Try.prog 19 #[.slice a L.length cap, .int .i64 g] w fun e w' => e = .returned (pzv (sizeX L g)) ∧ Below w.heap.size w w' := by
  have HR := Shut.mk (fun (X : World) (hb : Below w.heap.size w X) => h.stays hb)
  have HC := Shut.mk (fun (x : Nat) (hx : x < L.length) (W : World) => implClone (L.getD x default).text W (by have := pzSum_mem (List.getElem_mem hx); simp [List.getD, hx]; omega))
  have HL := Shut.mk hl
  have H0 := Shut.mk (((SL.start w).new #[.int .i64 g] 3).new #[.int .i64 0, .string ⟨#[]⟩] 56)
  simp only [World.size_alloc] at H0
  clear h hs hl
  refine (callsIn_wide (n := 4)).1 ?_
  refine callsIn_of_wp_marks Try.func19 rfl trivial ?_ rfl
  simp only [Try.ntmps19, List.size_toArray, List.length_cons, List.length_nil, Nat.reduceAdd, Nat.reduceSub, Array.replicate_succ, Array.replicate_zero, List.push_toArray, List.append_toArray, List.nil_append, List.cons_append]
  have HM := Shut.mk (fun (W : World) => callsIn_wide (n := 4 - 1).2 (backward_makes a L.length cap W))
  gi_wp2_with (refine ⟨trivial, ?_⟩; gi_at_call 48; refine (HM.out _).mono ?_; rintro e w1 ⟨rfl, hb1, hq1, hz1⟩)
  simp only [World.size_alloc] at hq1 hz1 ⊢
  have h1 := H0.out.add (s := bxS (w.heap.size + 1 + 1) [.slice a L.length cap]) hb1 hq1 (bxS.loc _ _) (by simp) hz1
  have H1 : Shut (SL w w1 (bkS w a L.length cap g ⟨0, ⟨#[]⟩⟩)) := ⟨h1⟩
  have hsz : w.heap.size ≤ w1.heap.size := by omega
  clear h1 hb1 hq1 HM H0
  refine range_ret (gf := 72) (r := .pointer (some ⟨w.heap.size + 1 + 1, 0, none⟩)) (encs := bwEnc L) (B := w.heap.size) (downs L.length) rfl (enters_of Try.func72 (by kernel_rfl) rfl) (fun _ => rfl) hsz
    (BkI w L a cap g) (BkX w L a cap g) (fun _ _ _ _ h hg hr => ⟨h.1, h.2.rec9 (bkS_box _ _ _ _ _ _) hg (bkR hsz hr)⟩) (fun _ _ _ _ h hg hr => SL.rec9 h (bkS_box _ _ _ _ _ _) hg (bkR hsz hr)) ⟨⟨L.length, Nat.le_refl _, rfl, by rw [List.take_length]⟩, H1.out⟩
    (BkA w L a cap g) (fun _ _ _ _ _ _ _ h hg hr => ⟨h.1, h.2.elim fun q hq => ⟨q, hq.1.rec9 (fun s hs => (List.mem_cons.1 hs).elim (fun e => ⟨_, _, _, e⟩) (bkS_box _ _ _ _ _ _ s)) hg (bkR hsz hr), hq.2⟩⟩) ?assign ?body ?seq ?done ?stop
  case seq =>
    intro l J Jx X _ hJI hJ hR h0
    exact backward_or L a cap (w.heap.size + 1 + 1) w.heap.size HL.out _ l J Jx (fun p X h => ⟨((hJI p X h).2.bx 0 rfl 0 _ rfl).1, HR.out X (hJI p X h).2.bel⟩) hJ hR X h0
  case assign =>
    intro l pre x post W K hxs hI hK
    dsimp only [bwEnc]
    have HI := Shut.mk hI
    have HK := Shut.mk hK
    obtain ⟨u, hu⟩ : ∃ u, u = L.getD x default := ⟨_, rfl⟩
    have HU := Shut.mk hu
    rw [← hu]
    clear hI hK hu
    gi_wp2_with fail
    exact HK.out _ _ (KeepsOthers.alloc _ _) ((Below.refl _ _).alloc HI.out.2.bel.size _) ⟨HI.out.1, _, by rw [← HU.out]; exact HI.out.2.new #[.int .i64 u.group, .string u.text] _, by rw [← HU.out]⟩
  case body =>
    rintro l pre x post a' X hxs ⟨⟨k, hk, hdk, hsz9⟩, q, hS, rfl⟩
    have hxk : k = x + 1 ∧ post = downs x := downs_cons (by rw [hdk] at hxs; exact List.append_cancel_left hxs)
    obtain ⟨rfl, rfl⟩ := hxk
    have hxl : x < L.length := hk
    have HT := Shut.mk (sizeX_take (g := g) hxl)
    have HZ9 := Shut.mk hsz9
    have hgd : L.getD x default = L[x] := by simp [List.getD, hxl]
    replace HC := Shut.mk (HC.out x hxl)
    obtain ⟨u, hu⟩ : ∃ u, u = L[x] := ⟨_, rfl⟩
    rw [hgd, ← hu] at HC hS ⊢
    rw [← hu] at HT
    have H := Shut.mk hS
    have hways : downs L.length = (pre ++ [x]) ++ downs x := by rw [hxs]; simp
    have HW := Shut.mk hways
    obtain ⟨y0, z0⟩ := H.out.bx 0 rfl 0 _ rfl
    obtain ⟨y1, z1⟩ := H.out.bx 0 rfl 1 _ rfl
    have g0 := (H.out.bx 3 rfl 0 _ rfl).1
    clear hS hgd hu hk hdk hsz9 hxs hways
    by_cases hg : u.group = g
    · have hg' : (u.group == g) = true := by simpa using hg
      have HX : Shut (u = sizeX L g) := ⟨by rw [HZ9.out, HT.out, if_pos hg]⟩
      gi_wp2_with fail
      have HTX : Shut (∀ Y, Later X.drew Y → SL w Y (bxS q (pzC u) :: bkS w a L.length cap g ⟨0, ⟨#[]⟩⟩)) := ⟨fun Y hY => H.out.later hY⟩
      have HLE : Shut (∀ Y, Later X.drew Y → Y.cell? ⟨q, 0, none⟩ = some (.int .i64 u.group) ∧ Y.cell? ⟨q, 1, none⟩ = some (.string u.text)) := ⟨fun Y hY => ⟨((HTX.out Y hY).bx 0 rfl 0 _ rfl).1, ((HTX.out Y hY).bx 0 rfl 1 _ rfl).1⟩⟩
      clear y0 y1 z0 z1 g0
      refine wpIn_region_set (fun i => i == 6) (by kernel_rfl) (by kernel_rfl) (fun _ _ h => h) ?_
      refine wpD_val (i := 0) (v := ?va0) rfl (by kernel_rfl) (by kernel_rfl) (by kernel_rfl) (by kernel_rfl) (fun _ _ _ h => by cases h.1) (by rfl) ?hy0 ?rest0
      case hy0 => (intro x hx; obtain ⟨d0, d1⟩ := HLE.out x hx; go_simp; try with_reducible rfl)
      try simp only [Act.put, List.setIfInBounds_toArray, List.set_cons_zero, List.set_cons_succ]
      refine wpD_val (i := 1) (v := ?va1) rfl (by kernel_rfl) (by kernel_rfl) (by kernel_rfl) (by kernel_rfl) (fun _ _ _ h => by cases h.1) (by rfl) ?hy1 ?rest1
      case hy1 => (intro x hx; obtain ⟨d0, d1⟩ := HLE.out x hx; go_simp; try with_reducible rfl)
      try simp only [Act.put, List.setIfInBounds_toArray, List.set_cons_zero, List.set_cons_succ]
      refine wpD_val (i := 2) (v := ?va2) rfl (by kernel_rfl) (by kernel_rfl) (by kernel_rfl) (by kernel_rfl) (fun _ _ _ h => by cases h.1) (by rfl) ?hy2 ?rest2
      case hy2 => (intro x hx; obtain ⟨d0, d1⟩ := HLE.out x hx; go_simp; try with_reducible rfl)
      try simp only [Act.put, List.setIfInBounds_toArray, List.set_cons_zero, List.set_cons_succ]
      refine wpD_val (i := 3) (v := ?va3) rfl (by kernel_rfl) (by kernel_rfl) (by kernel_rfl) (by kernel_rfl) (fun _ _ _ h => by cases h.1) (by rfl) ?hy3 ?rest3
      case hy3 => (intro x hx; obtain ⟨d0, d1⟩ := HLE.out x hx; go_simp; try with_reducible rfl)
      try simp only [Act.put, List.setIfInBounds_toArray, List.set_cons_zero, List.set_cons_succ]
      refine wpD_call (i := 4) (v := .string u.text) (f := 49) (args := #[.string u.text]) rfl (by kernel_rfl) (by kernel_rfl) (by kernel_rfl) (by kernel_rfl) (fun _ _ _ h => by cases h.1) (by rfl) ?hy4 (fun x _ => HC.out x) ?rest4
      case hy4 => (intro x hx; obtain ⟨d0, d1⟩ := HLE.out x hx; go_simp; try with_reducible rfl)
      try simp only [Act.put, List.setIfInBounds_toArray, List.set_cons_zero, List.set_cons_succ]
      refine wpD_val (i := 5) (v := ?va5) rfl (by kernel_rfl) (by kernel_rfl) (by kernel_rfl) (by kernel_rfl) (fun _ _ _ h => by cases h.1) (by rfl) ?hy5 ?rest5
      case hy5 => (intro x hx; obtain ⟨d0, d1⟩ := HLE.out x hx; go_simp; try with_reducible rfl)
      try simp only [Act.put, List.setIfInBounds_toArray, List.set_cons_zero, List.set_cons_succ]
      refine wpD_tail (by kernel_rfl) ?_
      intro Y hY
      have H5 := Shut.mk (HTX.out Y hY)
      obtain ⟨r0, s0⟩ := H5.out.bx 2 rfl 0 _ rfl
      obtain ⟨r1, s1⟩ := H5.out.bx 2 rfl 1 _ rfl
      have H8 := Shut.mk (((H5.out.put 2 rfl 0 (.int .i64 u.group) (by simp)).put 2 rfl 1 (.string u.text) (by simp)).tail)
      simp only [List.set_cons_zero, List.set_cons_succ] at H8
      have hY9 : KeepsOthers X Y := keeps_below9 (Below.trans (Below.drew (Below.refl _ _)) hY)
      refine wpA_store (y := (Y.setCell ⟨w.heap.size + 1, 0, none⟩ (.int .i64 u.group)).setCell ⟨w.heap.size + 1, 1, none⟩ (.string u.text)) (i := 6) (by kernel_rfl) rfl (by rfl) (by go_simp) (by kernel_rfl) ?_
      refine ⟨rfl, ?_⟩
      clear r0 r1 s0 s1
      gi_wp2_with fail
      refine ⟨hY9.trans ((KeepsOthers.setCell _ _ _).trans (KeepsOthers.setCell _ _ _)), ((((Below.trans (Below.drew (Below.refl _ _)) hY).mono H.out.bel.size).setCell (p := ⟨w.heap.size + 1, 0, none⟩) (by simp) _).setCell (p := ⟨w.heap.size + 1, 1, none⟩) (by simp) _), .inr ⟨rfl, ?_⟩⟩
      show SL w _ _
      rw [← HX.out]
      exact H8.out
    · have hg' : (u.group == g) = false := by simpa using hg
      have HX : Shut (sizeX L g = sizeX (L.take x) g) := ⟨by rw [HZ9.out, HT.out, if_neg hg]⟩
      gi_wp2_with fail
      exact ⟨KeepsOthers.refl _, Below.refl _ _, .inl ⟨rfl, ⟨x, by omega, HW.out, HX.out⟩, H.out.tail⟩⟩
  case done =>
    rintro D X hD ⟨⟨k, hk, hdk, hsz9⟩, hS⟩ hK
    have hk0 : downs k = [] := by
      have := congrArg List.length hdk
      rw [List.length_append] at this
      exact List.length_eq_zero_iff.1 (by omega)
    obtain rfl := downs_nil hk0
    have HX : Shut (sizeX L g = ⟨0, ⟨#[]⟩⟩) := ⟨by rw [hsz9]; rfl⟩
    have H := Shut.mk hS
    have HD := Shut.mk hK
    obtain ⟨r0, s0⟩ := H.out.bx 1 rfl 0 _ rfl
    obtain ⟨r1, s1⟩ := H.out.bx 1 rfl 1 _ rfl
    have H8 := Shut.mk ((H.out.put 1 rfl 0 (.int .i64 0) (by simp)).put 1 rfl 1 (.string ⟨#[]⟩) (by simp))
    simp only [List.set_cons_zero, List.set_cons_succ] at H8
    clear hS hK hdk hsz9 hk hk0
    gi_wp2_with fail
    have hd := ((KeepsOthers.setCell X ⟨w.heap.size + 1, 0, none⟩ (.int .i64 0)).trans (KeepsOthers.setCell _ ⟨w.heap.size + 1, 1, none⟩ (.string ⟨#[]⟩))).same D _ HD.out rfl
    obtain ⟨c0, c1, hb⟩ := bk_fin (w := w) (a := a) (n := L.length) (cap := cap) (g := g) (r := ⟨0, ⟨#[]⟩⟩) H8.out (by omega) hd
    refine ⟨by simp, .inl ⟨_, _, rfl, run_takeDeferred hd, ?_⟩⟩
    refine ⟨pzv ⟨0, ⟨#[]⟩⟩, by simp [results, Try.results19, go_sem, c0, c1], ?_⟩
    exact ⟨by rw [HX.out], hb⟩
  case stop =>
    rintro D pre X hD hS hK
    have H := Shut.mk hS
    have HD := Shut.mk hK
    clear hS hK
    gi_wp2_with fail
    obtain ⟨c0, c1, hb⟩ := bk_fin (w := w) (r := sizeX L g) H.out (by omega) HD.out
    refine ⟨by simp, .inl ⟨_, _, rfl, run_takeDeferred HD.out, ?_⟩⟩
    refine ⟨pzv (sizeX L g), by simp [results, Try.results19, go_sem, c0, c1], ?_⟩
    exact ⟨rfl, hb⟩
end Go.Proofs.Ytendbipfmgnjkaa
